/- Regions that draw their order: 'x, y := u, v' of two structs: two new variables, in whichever order, and two stores. -/
import Derived.Test.YtpefkellcigpkaaCdZ
import Derived.Test.YtpefkellcigpkaaCdW
namespace Go.Proofs.Ytpefkellcigpkaa.Cd
open Go.RowKit Go.Proofs.Ytpefkellcigpkaa
set_option maxRecDepth 100000

section
variable {P : Program} {ops : Array Oper} {Q : Exit → Act → World → Prop} {md : Region.Mode} {S : World → Prop} {late : List Nat}

theorem alloc_wp {t : TypeId} {Z : Array Value} {o : Oper} {a : Act} {w : World} {K : Act → World → Prop} (hz : ∀ w : World, (zeroValue t).run P w = .ok (.agg Z) w) (ho : o.op = .alloc t)
    (h : K (a.put o.dst (.pointer (some ⟨w.heap.size, 0, none⟩))) (w.alloc (.cells Z t))) : Oper.wp P o a w K Q := by
  unfold Oper.wp execOp
  simp only [ho, Sem.run_bind, Instr.alloc, hz w, Result.andThen_ok, newVar, newRow, run_newObj_alloc, Sem.run_pure, Value.cells]
  exact h

theorem eval_put_same {a : Act} {d : Nat} {v : Value} (h : d < a.tmps.size) : (a.put (some d) v).eval (.tmp d) = v := by
  simp [Act.put, Act.eval, h]
theorem eval_put_ne {a : Act} {d e : Nat} {v : Value} (h : d ≠ e) : (a.put (some d) v).eval (.tmp e) = a.eval (.tmp e) := by
  simp [Act.put, Act.eval, h]
theorem size_put {a : Act} {d : Option Nat} {v : Value} : (a.put d v).tmps.size = a.tmps.size := by
  cases d <;> simp [Act.put]

/-- One operation without a guard that alone may come up. -/
theorem wpAnyZ_sole {i : Nat} {oi : Oper} {fuel : Nat} {listed : Array Bool} {a : Act} {w : World} (hi : ops[i]? = some oi) (hr : Region.ready md ops listed = [i]) (hg : oi.guard = none)
    (h : ∀ K' : Act → World → Prop, (∀ a' w', S w' → wpAnyZ P md ops Q S late fuel (listed.setIfInBounds i true) a' w' → K' a' w') → Oper.wp P oi a w K' Q) : wpAnyZ P md ops Q S late (fuel + 1) listed a w :=
  wpAnyZ_one hi hr (by simp [Region.wanted, hg]) (fun K' hK => h K' (fun a' w' h1 h2 => hK.out a' w' (fun _ _ => h1) h2))

theorem wpAnyZ_vars {i j m n d1 d2 : Nat} {oi oj om on : Oper} {t : TypeId} {Z C1 C2 : Array Value} {x1 x2 : Operand} {fuel : Nat} {listed : Array Bool} {a : Act} {w : World}
    (hi : ops[i]? = some oi) (hj : ops[j]? = some oj) (hm : ops[m]? = some om) (hn : ops[n]? = some on)
    (gi : oi.guard = none) (gj : oj.guard = none) (gm : om.guard = none) (gn : on.guard = none)
    (pi : oi.op = .alloc t) (pj : oj.op = .alloc t) (pm : om.op = .store t (.tmp d1) x1) (pn : on.op = .store t (.tmp d2) x2)
    (di : oi.dst = some d1) (dj : oj.dst = some d2) (dm : om.dst = none) (dn : on.dst = none) (hd : d1 ≠ d2)
    (r0 : Region.ready md ops listed = [i, j]) (r1 : Region.ready md ops (listed.setIfInBounds i true) = [j]) (r2 : Region.ready md ops (listed.setIfInBounds j true) = [i])
    (r3 : Region.ready md ops ((listed.setIfInBounds i true).setIfInBounds j true) = [m]) (r4 : Region.ready md ops (((listed.setIfInBounds i true).setIfInBounds j true).setIfInBounds m true) = [n])
    (r5 : Region.ready md ops ((((listed.setIfInBounds i true).setIfInBounds j true).setIfInBounds m true).setIfInBounds n true) = []) (hij : i ≠ j)
    (hz : ∀ w : World, (zeroValue t).run P w = .ok (.agg Z) w) (hinfo : (P.info? t).map (·.size) = some Z.size) (hs1 : Z.size = C1.size) (hs2 : Z.size = C2.size) (ho1 : C1.all (·.oneCell') = true) (ho2 : C2.all (·.oneCell') = true)
    (sz1 : d1 < a.tmps.size) (sz2 : d2 < a.tmps.size) (e1 : ∀ p q, ((a.put (some d1) p).put (some d2) q).eval x1 = .agg C1) (e2 : ∀ p q, ((a.put (some d1) p).put (some d2) q).eval x2 = .agg C2)
    (hS : ∀ w', Keep (fun _ => False) w w' → S w')
    (h : ∀ g1 g2 w', w'.heap[g1]? = some (.cells C1 t (0, 0)) → w'.heap[g2]? = some (.cells C2 t (0, 0)) → Keep (fun _ => False) w w' → Q .normal ((a.put (some d1) (.pointer (some ⟨g1, 0, none⟩))).put (some d2) (.pointer (some ⟨g2, 0, none⟩))) w') :
    wpAnyZ P md ops Q S late (fuel + 4) listed a w := by
  have K0 := Keep.refl (fun _ => False) w
  have tail : ∀ g1 g2 w', g1 ≠ g2 → w.heap.size ≤ g1 → w.heap.size ≤ g2 → w'.heap[g1]? = some (.cells Z t (0, 0)) → w'.heap[g2]? = some (.cells Z t (0, 0)) → Keep (fun _ => False) w w' →
      wpAnyZ P md ops Q S late (fuel + 2) ((listed.setIfInBounds i true).setIfInBounds j true) ((a.put (some d1) (.pointer (some ⟨g1, 0, none⟩))).put (some d2) (.pointer (some ⟨g2, 0, none⟩))) w' := by
    intro g1 g2 w' hne hg1 hg2 h1 h2 hk
    refine wpAnyZ_sole hm r3 gm (fun K' hK => ?_)
    refine wp_store_row t (.tmp d1) x1 pm g1 C1 ?_ (e1 _ _) t Z h1 (by rw [hinfo, hs1]) hs1 ho1 ?_
    · rw [eval_put_ne (Ne.symm hd), eval_put_same sz1]
    have k1 : Keep (fun _ => False) w (w'.setRow g1 C1) := hk.trans (show Keep (fun b => b = g1) w' (w'.setRow g1 C1) from ⟨rfl, rfl, rfl, by simp, fun k _ hne => setRow_other w' g1 k _ hne⟩) (fun b hb => .inr (by omega))
    have h1' := setRow_heap w' g1 _ C1 _ _ h1
    have h2' : (w'.setRow g1 C1).heap[g2]? = _ := (setRow_other w' g1 g2 C1 (Ne.symm hne)).trans h2
    rw [dm]
    refine hK _ _ (hS _ k1) ?_
    refine wpAnyZ_sole hn r4 gn (fun K2 hK2 => ?_)
    refine wp_store_row t (.tmp d2) x2 pn g2 C2 ?_ (e2 _ _) t Z h2' (by rw [hinfo, hs2]) hs2 ho2 ?_
    · exact eval_put_same (by rw [size_put]; exact sz2)
    have k2 : Keep (fun _ => False) w ((w'.setRow g1 C1).setRow g2 C2) := k1.trans (show Keep (fun b => b = g2) (w'.setRow g1 C1) ((w'.setRow g1 C1).setRow g2 C2) from ⟨rfl, rfl, rfl, by simp, fun k _ hne => setRow_other _ g2 k _ hne⟩) (fun b hb => .inr (by omega))
    rw [dn]
    refine hK2 _ _ (hS _ k2) ?_
    refine wpAnyZ_done r5 ?_ _
    exact h g1 g2 _ ((setRow_other _ g2 g1 C2 hne).trans h1') (setRow_heap _ g2 _ C2 _ _ h2') k2
  refine ⟨fun h0 => (by rw [h0] at r0; cases r0), fun q hq => ?_⟩
  rw [r0] at hq
  rcases (by simpa using hq : q = i ∨ q = j) with rfl | rfl
  · refine wpOp_step hi (fun K' hK => ?_)
    rw [if_pos (by simp [Region.wanted, gi])]
    refine alloc_wp hz pi ?_
    have ka := K0.alloc (.cells Z t)
    rw [di]
    refine hK _ _ ⟨fun _ _ => hS _ ka, ?_⟩
    refine wpAnyZ_sole hj r1 gj (fun K2 hK2 => ?_)
    refine alloc_wp hz pj ?_
    rw [dj]
    have kb := ka.alloc (.cells Z t)
    refine hK2 _ _ (hS _ kb) ?_
    refine tail w.heap.size (w.alloc (.cells Z t)).heap.size _ ?_ (Nat.le_refl _) ?_ ?_ (heap_alloc_new _ _) kb
    · rw [World.size_alloc]; omega
    · rw [World.size_alloc]; omega
    · exact (((Keep.refl (fun _ => False) (w.alloc (.cells Z t))).alloc (.cells Z t)).block _ (by rw [World.size_alloc]; omega) (fun h => h)).trans (heap_alloc_new w _)
  · refine wpOp_step hj (fun K' hK => ?_)
    rw [if_pos (by simp [Region.wanted, gj])]
    refine alloc_wp hz pj ?_
    have ka := K0.alloc (.cells Z t)
    rw [dj]
    refine hK _ _ ⟨fun _ _ => hS _ ka, ?_⟩
    refine wpAnyZ_sole hi r2 gi (fun K2 hK2 => ?_)
    refine alloc_wp hz pi ?_
    rw [di]
    have kb := ka.alloc (.cells Z t)
    refine hK2 _ _ (hS _ kb) ?_
    rw [Array.setIfInBounds_comm _ _ (Ne.symm hij), Act.put_comm a _ _ (fun d hd1 hd2 => hd (by simp only [Option.some.injEq] at hd1 hd2; omega))]
    refine tail (w.alloc (.cells Z t)).heap.size w.heap.size _ ?_ ?_ (Nat.le_refl _) (heap_alloc_new _ _) ?_ kb
    · rw [World.size_alloc]; omega
    · rw [World.size_alloc]; omega
    · exact (((Keep.refl (fun _ => False) (w.alloc (.cells Z t))).alloc (.cells Z t)).block _ (by rw [World.size_alloc]; omega) (fun h => h)).trans (heap_alloc_new w _)

end

end Go.Proofs.Ytpefkellcigpkaa.Cd
