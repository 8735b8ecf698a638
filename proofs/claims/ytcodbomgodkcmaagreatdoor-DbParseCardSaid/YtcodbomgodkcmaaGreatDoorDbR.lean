/- World files: the reference's line of a recipe. -/
import Derived.Test.YtcodbomgodkcmaaGreatDoorDbH
import Derived.Shelf.Abstract
namespace Go.Proofs.YtcodbomgodkcmaaGreatDoor.Wd
open Go.RowKit Go.Maps Go.Proofs.YtcodbomgodkcmaaGreatDoor Go.Proofs.YtcodbomgodkcmaaGreatDoor.Lin Go.Shelf
set_option maxRecDepth 100000

theorem WsAt.drop0 {w : World} {g off cap : Nat} {l : List ByteArray} (h : WsAt w g off cap l) {k : Nat} (hk : k ≤ l.length) : Seen w 1 (.slice (some ⟨g, off + k, none⟩) (l.length - k) (cap - k)) (l.drop k).length (tcells (l.drop k)) := by
  by_cases e : k < l.length
  · exact h.drop e
  · obtain rfl : k = l.length := by omega
    obtain ⟨_, _, hv, h1, h2⟩ := h.row.slice
    simp only [Value.slice.injEq] at hv
    obtain ⟨-, -, rfl⟩ := hv
    rw [List.drop_length]
    exact ⟨by simp [tcells], some ⟨g, off + l.length, none⟩, cap - l.length, by simp, by simp, by omega, .inl rfl⟩

section
variable {P : Program} {w : World} {ops : Array Oper} {o : Oper} {a : Act} {K : Act → World → Prop} {Q : Exit → Act → World → Prop} {E : Prop}
/-- A call of a function of one argument, as go_region_law hands it over. -/
theorem step_call1 (hg : o.guard = none) {f : FuncId} {x : Operand} {t : TypeId} {v0 : Value} (ho : o.op = .call { callee := .value (.func f), args := #[x], argTypes := #[t] }) (he : ∀ args w, (callFunc f args).run P w = .ok (.enter f args) w) (hx : a.eval x = v0)
    (hc : Calls P f #[v0] w fun e w' => ∃ v, e = .returned v ∧ K (a.put o.dst v) w') :
    if Region.wanted o (yielded ops a.tmps) = true then Oper.wp P o a w K Q else E := by
  have hw : Region.wanted o (yielded ops a.tmps) = true := by simp [Region.wanted, hg]
  rw [if_pos hw]
  have hrun : (execOp a.eval o).run P w = .ok (.enter f #[v0]) w := by
    subst hx
    simp [execOp, ho, resolve, invoke, go_sem, he, Act.eval]
  unfold Oper.wp
  rw [hrun, Oper.upon_enter]
  refine hc.mono fun e w'' hh => ?_
  obtain ⟨v, rfl, hh⟩ := hh
  exact hh
end

theorem Tryz.infoRecipe : (Tryz.prog.info? 83).map (fun i => (i.zero, i.size, i.bytes)) = some (some (.agg #[.int .i64 0, .slice none 0 0]), 2, 32) := by kernel_rfl

set_option maxHeartbeats 16000000 in
theorem refLineRecipe_a {w : World} {B : Nat → Prop} {d : Nat} {D : DbM} {v1 v2 v3 v4 v5 v6 : Value} {rr : List (RecM × Value)} {ss : List (ShopM × Value)} (h : DbV B w d D v1 v2 v3 v4 v5 v6 rr ss) {g off cap : Nat} {l : List ByteArray} (hw : WsAt w g off cap l) (hg : ¬ B g)
    (hl2 : l.length ≤ 1000000) (h0 : atW l 0 = wRecipe) (hn : D.recs.length ≤ 1000000) (hnf : numsF 1 1000 (l.drop 2) = none) (r1 : 3 ≤ l.length) :
    Calls Tryz.prog 22 #[.pointer (some ⟨d, 0, none⟩), .slice (some ⟨g, off, none⟩) l.length cap] w (LineA B w d D (recipeF l)) := by
  have HV := Lib.hid h
  have HW : Hid (∀ w9, Keep (fun b => B b) w w9 → WsAt w9 g off cap l) := Lib.hid (fun w9 k => hw.keep k hg)
  obtain ⟨_, _, hv, hc1, hc2⟩ := hw.row.slice
  simp only [Value.slice.injEq] at hv
  obtain ⟨rfl, -, rfl⟩ := hv
  unfold maxLen at hc2
  obtain ⟨n1, ok1, e1⟩ : ∃ n ok, numF (atW l 1) 1 1000 = (n, ok) := ⟨_, _, rfl⟩
  have C1 := Lib.hid (fun w9 : World => refNum_any (w := w9) (atW l 1) 1 1000)
  rw [e1] at C1
  have E1 := Lib.hid e1
  have HNF := Lib.hid hnf
  have CN0 : Hid (∀ w9 : World, Keep (fun b => B b) w w9 → Calls Tryz.prog 78 #[.slice (some ⟨g, off + 2, none⟩) (l.length - 2) (cap - 2), .int .i64 1, .int .i64 1000] w9 (NumsA (numsF 1 1000 (l.drop 2)) w9)) := Lib.hid (fun w9 k9 => refNums_any (by have := (HW.out w9 k9).drop0 (k := 2) (by omega); exact this) (by rw [List.length_drop]; omega) 1 1000)
  have CN : Hid (∀ w9 : World, Keep (fun b => B b) w w9 → Calls Tryz.prog 78 #[.slice (some ⟨g, off + 2, none⟩) (l.length - 2) (cap - 2), .int .i64 1, .int .i64 1000] w9 fun e w' => ∃ v, e = .returned (.tuple #[v, .bool false]) ∧ Row w' 3 1 v ([] : List Int).length (icells []) ∧ Keep (fun _ => False) w9 w') := Lib.hid (fun w9 k9 => (CN0.out w9 k9).mono fun e w' hh => by
    rcases hh with ⟨l', v, hl', _⟩ | ⟨_, he, hk⟩
    · rw [hnf] at hl'; cases hl'
    · exact ⟨_, he, Row.nil _ _ _, hk⟩)
  have hnsl : ([] : List Int).length ≤ 1000000 := by simp
  have k0 : Keep (fun b => B b) w w := Keep.refl _ _
  have x0 := (HW.out w k0).cell (i := 0) (by omega)
  rw [h0, Nat.add_zero] at x0
  have x1 := (HW.out w k0).cell (i := 1) (by omega)
  obtain ⟨a1, c1, hv4, hcr, hcr2⟩ := h.l4.slice
  have hrl : rr.length = D.recs.length := by rw [← h.fr, List.length_map]
  rw [hrl] at hv4 hcr
  subst hv4
  have HRL := Lib.hid hrl
  unfold maxLen at hcr2
  obtain ⟨i0, hi0, hz0, hz1, hz2⟩ := info_parts Tryz.infoRecipe
  obtain ⟨n, hnl⟩ : ∃ n, n = l.length := ⟨_, rfl⟩
  rw [← hnl] at hl2 hc1 CN r1 ⊢
  have HNL := Lib.hid hnl
  have d2 : decide ((n : Int) < 2) = false := by rw [decide_eq_false_iff_not]; omega
  have d2b : decide ((n : Int) < 3) = false := by rw [decide_eq_false_iff_not]; omega
  have d0 : (0 : Int) < (n : Int) := by omega
  have d1 : (1 : Int) < (n : Int) := by omega
  have d3 : (2 : Int) ≤ (n : Int) := by omega
  have d4 : (n : Int) ≤ (cap : Int) := by omega
  have d5 : decide (3 ≤ (n : Int)) = true := by rw [decide_eq_true_eq]; omega
  have d7 : decide (3 ≤ n) = true := by rw [decide_eq_true_eq]; omega
  clear hnl
  clear h hw k0 h0 CN0 hnf hrl e1
  go_enter Tryz.func22, Tryz.ntmps22
  go_wp2_with (first | (go_at_call 74; (with_reducible refine (C1.out _).mono ?_); rintro e w' ⟨rfl, rfl⟩) | (go_at_call 78; (with_reducible refine (CN.out _ (Keep.refl _ _)).mono ?_); rintro e w3 ⟨va, rfl, r3, k3⟩; have HR3 := Lib.hid r3; have HK3 := Lib.hid k3; clear r3 k3))
  all_goals try (exfalso; omega)
  obtain ⟨ae, ce, rfl, hce, hce2⟩ := HR3.out.slice
  have HDB := Lib.hid (HV.out.keep HK3.out (fun _ _ _ h => h))
  have p0 : w3.cell? ⟨d, 3, none⟩ = some (.slice a1 D.recs.length c1) := (cell_of_row w3 d 3 _ _ _ HDB.out.blk).trans rfl
  have hds : d < w3.heap.size := lt_of_block HDB.out.blk
  have CS : Hid (Calls Tryz.prog 79 #[.slice ae ([] : List Int).length ce] w3.drew fun e w' => ∃ a c, e = .returned (.slice a (sortI ([] : List Int)).length c) ∧ Row w' 3 1 (.slice a (sortI ([] : List Int)).length c) (sortI ([] : List Int)).length (icells (sortI ([] : List Int))) ∧ (∀ b, (Value.slice a (sortI ([] : List Int)).length c).ownBlock = some b → w3.heap.size ≤ b) ∧ Keep (fun _ => False) w3 w') := Lib.hid ((refSorted_any (w := w3.drew) HR3.out.drew.seen hnsl).mono fun e w' hh => by
    obtain ⟨M, v', he, hso, hr, ho, hk⟩ := hh
    obtain rfl := hso.sortI
    obtain ⟨a, c, rfl, _, _⟩ := hr.slice
    exact ⟨a, c, he, hr, ho, ((Keep.refl _ w3).drew).trans hk (fun _ h => h.elim)⟩)
  generalize hsn : (sortI ([] : List Int)).length = sn at CS
  have HSN := Lib.hid hsn
  clear hsn
  go_region_law (first
    | (refine step_call1 (v0 := .slice ae ([] : List Int).length ce) rfl rfl (enters_of Tryz.func79 (by kernel_rfl) rfl) (by simp [go_sem]) ?_; refine CS.out.mono ?_; rintro e w5 ⟨a5, c5, rfl, r5, o5, k5⟩; refine ⟨_, rfl, ?_⟩; have HR5 := Lib.hid r5; have HO5 := Lib.hid o5; have HK5 := Lib.hid k5; have p5 : w5.cell? ⟨d, 3, none⟩ = some (.slice a1 D.recs.length c1) := (k5.cell hds (fun h => h) _).trans p0; have hds5 : d < w5.heap.size := Nat.lt_of_lt_of_le hds k5.size; have HD5 := Lib.hid (HDB.out.keep k5 (fun _ _ _ h => h)); obtain ⟨X9, hX9⟩ : ∃ X9, X9 = w5.alloc (.cells (recC (⟨n1, sortI ([] : List Int)⟩, .slice a5 sn c5)).toArray 83) := ⟨_, rfl⟩; have HKX : Hid (Keep (fun _ => False) w5 X9) := Lib.hid (by rw [hX9]; exact (Keep.refl _ w5).alloc _); have HDX := Lib.hid (HD5.out.keep HKX.out (fun _ _ _ h => h)); have HRX : Hid (Row X9 83 2 (.slice (some ⟨w5.heap.size, 0, none⟩) 1 1) 1 (recC (⟨n1, sortI ([] : List Int)⟩, .slice a5 sn c5))) := Lib.hid (by rw [hX9]; exact Row.made (w := w5) (recC (⟨n1, sortI ([] : List Int)⟩, .slice a5 sn c5)).toArray w5.heap.size 1 rfl (by simp [maxLen]) (by simp [recC])); have HL4 : Hid (Row X9 83 2 (.slice a1 D.recs.length c1) D.recs.length (flat recC rr)) := Lib.hid (by have := HDX.out.l4; unfold Rec at this; rwa [HRL.out] at this); have HXE : Hid (w5.alloc (.cells #[.int .i64 n1, .slice a5 sn c5] 83) = X9) := Lib.hid hX9.symm; clear r5 o5 k5 hX9)
    | (rw [HXE.out]; refine step_append_row rfl (.tmp 228) (.tmp 233) rfl Tryz.underlying46 hi0 hz0 hz1 hz2 rfl (by simp [go_sem]) HL4.out (by simp [go_sem]) (HRX.out.src Tryz.underlying46 (by simp [recC, Value.oneCell'])) (by unfold maxLen; omega) (by omega) ?_; intro v9 w9 r1 r2 r3 _; obtain ⟨a9, c9, rfl, _, _⟩ := r1.slice; have nd : ¬ (Value.slice a1 D.recs.length c1).ownBlock = some d := fun e => (by obtain ⟨cs, f, hb⟩ := HL4.out.type e; exact ty_ne HDX.out.blk hb (by decide) rfl); have hb9 : w9.heap[d]? = some (.cells #[v1, v2, v3, .slice a1 D.recs.length c1, v5, v6] 50 (0, 0)) := (r2.block d (lt_of_block HDX.out.blk) nd).trans HDX.out.blk; have f9 : w9.frozen? ⟨d, 3, none⟩ = false := frozen_of_row _ _ _ _ _ hb9; have c9' : w9.cell? ⟨d, 3, none⟩ = some (.slice a1 D.recs.length c1) := (cell_of_row _ _ _ _ _ _ hb9).trans rfl; have R1 := Lib.hid r1; have R2 := Lib.hid r2; have R3 := Lib.hid r3; clear r1 r2 r3 hb9 nd))
  all_goals go_simp
  all_goals
    have HKL : Hid (Keep (fun b => B b) w (w9.setCell ⟨d, 3, none⟩ (.slice a9 (D.recs.length + 1) c9))) := Lib.hid (Keep.setCell ((((((HK3.out.trans HK5.out (fun _ h => h.elim)).trans HKX.out (fun _ h => h.elim)).mono (fun _ _ h => h.elim)).trans R2.out (fun b hb => .inl (HDX.out.o4 b hb))))) _ _ (.inl HDX.out.base.1))
    cases ok1 with
    | false =>
      go_wp2
      all_goals go_ret
      all_goals
        exact .inr ⟨by have hnl := HNL.out; unfold recipeF; rw [E1.out, HNF.out]; split <;> simp_all, rfl, HKL.out⟩
    | true =>
      go_wp2
      all_goals go_ret
      all_goals
        exact .inr ⟨by have hnl := HNL.out; unfold recipeF; rw [E1.out, HNF.out]; split <;> simp_all, rfl, HKL.out⟩

set_option maxHeartbeats 16000000 in
theorem refLineRecipe_b {w : World} {B : Nat → Prop} {d : Nat} {D : DbM} {v1 v2 v3 v4 v5 v6 : Value} {rr : List (RecM × Value)} {ss : List (ShopM × Value)} (h : DbV B w d D v1 v2 v3 v4 v5 v6 rr ss) {g off cap : Nat} {l : List ByteArray} (hw : WsAt w g off cap l) (hg : ¬ B g)
    (hl2 : l.length ≤ 1000000) (h0 : atW l 0 = wRecipe) (hn : D.recs.length ≤ 1000000) {ns : List Int} (hnf : numsF 1 1000 (l.drop 2) = some ns) (r1 : 3 ≤ l.length) :
    Calls Tryz.prog 22 #[.pointer (some ⟨d, 0, none⟩), .slice (some ⟨g, off, none⟩) l.length cap] w (LineA B w d D (recipeF l)) := by
  have HV := Lib.hid h
  have HW : Hid (∀ w9, Keep (fun b => B b) w w9 → WsAt w9 g off cap l) := Lib.hid (fun w9 k => hw.keep k hg)
  obtain ⟨_, _, hv, hc1, hc2⟩ := hw.row.slice
  simp only [Value.slice.injEq] at hv
  obtain ⟨rfl, -, rfl⟩ := hv
  unfold maxLen at hc2
  obtain ⟨n1, ok1, e1⟩ : ∃ n ok, numF (atW l 1) 1 1000 = (n, ok) := ⟨_, _, rfl⟩
  have C1 := Lib.hid (fun w9 : World => refNum_any (w := w9) (atW l 1) 1 1000)
  rw [e1] at C1
  have E1 := Lib.hid e1
  have HNF := Lib.hid hnf
  have CN0 : Hid (∀ w9 : World, Keep (fun b => B b) w w9 → Calls Tryz.prog 78 #[.slice (some ⟨g, off + 2, none⟩) (l.length - 2) (cap - 2), .int .i64 1, .int .i64 1000] w9 (NumsA (numsF 1 1000 (l.drop 2)) w9)) := Lib.hid (fun w9 k9 => refNums_any (by have := (HW.out w9 k9).drop0 (k := 2) (by omega); exact this) (by rw [List.length_drop]; omega) 1 1000)
  have CN : Hid (∀ w9 : World, Keep (fun b => B b) w w9 → Calls Tryz.prog 78 #[.slice (some ⟨g, off + 2, none⟩) (l.length - 2) (cap - 2), .int .i64 1, .int .i64 1000] w9 fun e w' => ∃ v, e = .returned (.tuple #[v, .bool true]) ∧ Row w' 3 1 v ns.length (icells ns) ∧ Keep (fun _ => False) w9 w') := Lib.hid (fun w9 k9 => (CN0.out w9 k9).mono fun e w' hh => by
    rcases hh with ⟨l', v, hl', he, hr, ho, hk⟩ | ⟨hno, _⟩
    · rw [hnf] at hl'; cases hl'; exact ⟨v, he, hr, hk⟩
    · rw [hnf] at hno; cases hno)
  have hnsl : ns.length ≤ 1000000 := by rw [numsF_len _ _ _ _ hnf, List.length_drop]; omega
  have k0 : Keep (fun b => B b) w w := Keep.refl _ _
  have x0 := (HW.out w k0).cell (i := 0) (by omega)
  rw [h0, Nat.add_zero] at x0
  have x1 := (HW.out w k0).cell (i := 1) (by omega)
  obtain ⟨a1, c1, hv4, hcr, hcr2⟩ := h.l4.slice
  have hrl : rr.length = D.recs.length := by rw [← h.fr, List.length_map]
  rw [hrl] at hv4 hcr
  subst hv4
  have HRL := Lib.hid hrl
  unfold maxLen at hcr2
  obtain ⟨i0, hi0, hz0, hz1, hz2⟩ := info_parts Tryz.infoRecipe
  obtain ⟨n, hnl⟩ : ∃ n, n = l.length := ⟨_, rfl⟩
  rw [← hnl] at hl2 hc1 CN r1 ⊢
  have HNL := Lib.hid hnl
  have d2 : decide ((n : Int) < 2) = false := by rw [decide_eq_false_iff_not]; omega
  have d2b : decide ((n : Int) < 3) = false := by rw [decide_eq_false_iff_not]; omega
  have d0 : (0 : Int) < (n : Int) := by omega
  have d1 : (1 : Int) < (n : Int) := by omega
  have d3 : (2 : Int) ≤ (n : Int) := by omega
  have d4 : (n : Int) ≤ (cap : Int) := by omega
  have d5 : decide (3 ≤ (n : Int)) = true := by rw [decide_eq_true_eq]; omega
  have d7 : decide (3 ≤ n) = true := by rw [decide_eq_true_eq]; omega
  clear hnl
  clear h hw k0 h0 CN0 hnf hrl e1
  go_enter Tryz.func22, Tryz.ntmps22
  go_wp2_with (first | (go_at_call 74; (with_reducible refine (C1.out _).mono ?_); rintro e w' ⟨rfl, rfl⟩) | (go_at_call 78; (with_reducible refine (CN.out _ (Keep.refl _ _)).mono ?_); rintro e w3 ⟨va, rfl, r3, k3⟩; have HR3 := Lib.hid r3; have HK3 := Lib.hid k3; clear r3 k3))
  all_goals try (exfalso; omega)
  obtain ⟨ae, ce, rfl, hce, hce2⟩ := HR3.out.slice
  have HDB := Lib.hid (HV.out.keep HK3.out (fun _ _ _ h => h))
  have p0 : w3.cell? ⟨d, 3, none⟩ = some (.slice a1 D.recs.length c1) := (cell_of_row w3 d 3 _ _ _ HDB.out.blk).trans rfl
  have hds : d < w3.heap.size := lt_of_block HDB.out.blk
  have CS : Hid (Calls Tryz.prog 79 #[.slice ae ns.length ce] w3.drew fun e w' => ∃ a c, e = .returned (.slice a (sortI ns).length c) ∧ Row w' 3 1 (.slice a (sortI ns).length c) (sortI ns).length (icells (sortI ns)) ∧ (∀ b, (Value.slice a (sortI ns).length c).ownBlock = some b → w3.heap.size ≤ b) ∧ Keep (fun _ => False) w3 w') := Lib.hid ((refSorted_any (w := w3.drew) HR3.out.drew.seen hnsl).mono fun e w' hh => by
    obtain ⟨M, v', he, hso, hr, ho, hk⟩ := hh
    obtain rfl := hso.sortI
    obtain ⟨a, c, rfl, _, _⟩ := hr.slice
    exact ⟨a, c, he, hr, ho, ((Keep.refl _ w3).drew).trans hk (fun _ h => h.elim)⟩)
  generalize hsn : (sortI ns).length = sn at CS
  have HSN := Lib.hid hsn
  clear hsn
  go_region_law (first
    | (refine step_call1 (v0 := .slice ae ns.length ce) rfl rfl (enters_of Tryz.func79 (by kernel_rfl) rfl) (by simp [go_sem]) ?_; refine CS.out.mono ?_; rintro e w5 ⟨a5, c5, rfl, r5, o5, k5⟩; refine ⟨_, rfl, ?_⟩; have HR5 := Lib.hid r5; have HO5 := Lib.hid o5; have HK5 := Lib.hid k5; have p5 : w5.cell? ⟨d, 3, none⟩ = some (.slice a1 D.recs.length c1) := (k5.cell hds (fun h => h) _).trans p0; have hds5 : d < w5.heap.size := Nat.lt_of_lt_of_le hds k5.size; have HD5 := Lib.hid (HDB.out.keep k5 (fun _ _ _ h => h)); obtain ⟨X9, hX9⟩ : ∃ X9, X9 = w5.alloc (.cells (recC (⟨n1, sortI ns⟩, .slice a5 sn c5)).toArray 83) := ⟨_, rfl⟩; have HKX : Hid (Keep (fun _ => False) w5 X9) := Lib.hid (by rw [hX9]; exact (Keep.refl _ w5).alloc _); have HDX := Lib.hid (HD5.out.keep HKX.out (fun _ _ _ h => h)); have HRX : Hid (Row X9 83 2 (.slice (some ⟨w5.heap.size, 0, none⟩) 1 1) 1 (recC (⟨n1, sortI ns⟩, .slice a5 sn c5))) := Lib.hid (by rw [hX9]; exact Row.made (w := w5) (recC (⟨n1, sortI ns⟩, .slice a5 sn c5)).toArray w5.heap.size 1 rfl (by simp [maxLen]) (by simp [recC])); have HL4 : Hid (Row X9 83 2 (.slice a1 D.recs.length c1) D.recs.length (flat recC rr)) := Lib.hid (by have := HDX.out.l4; unfold Rec at this; rwa [HRL.out] at this); have HXE : Hid (w5.alloc (.cells #[.int .i64 n1, .slice a5 sn c5] 83) = X9) := Lib.hid hX9.symm; clear r5 o5 k5 hX9)
    | (rw [HXE.out]; refine step_append_row rfl (.tmp 228) (.tmp 233) rfl Tryz.underlying46 hi0 hz0 hz1 hz2 rfl (by simp [go_sem]) HL4.out (by simp [go_sem]) (HRX.out.src Tryz.underlying46 (by simp [recC, Value.oneCell'])) (by unfold maxLen; omega) (by omega) ?_; intro v9 w9 r1 r2 r3 _; obtain ⟨a9, c9, rfl, _, _⟩ := r1.slice; have nd : ¬ (Value.slice a1 D.recs.length c1).ownBlock = some d := fun e => (by obtain ⟨cs, f, hb⟩ := HL4.out.type e; exact ty_ne HDX.out.blk hb (by decide) rfl); have hb9 : w9.heap[d]? = some (.cells #[v1, v2, v3, .slice a1 D.recs.length c1, v5, v6] 50 (0, 0)) := (r2.block d (lt_of_block HDX.out.blk) nd).trans HDX.out.blk; have f9 : w9.frozen? ⟨d, 3, none⟩ = false := frozen_of_row _ _ _ _ _ hb9; have c9' : w9.cell? ⟨d, 3, none⟩ = some (.slice a1 D.recs.length c1) := (cell_of_row _ _ _ _ _ _ hb9).trans rfl; have R1 := Lib.hid r1; have R2 := Lib.hid r2; have R3 := Lib.hid r3; clear r1 r2 r3 hb9 nd))
  all_goals go_simp
  all_goals
    have HKL : Hid (Keep (fun b => B b) w (w9.setCell ⟨d, 3, none⟩ (.slice a9 (D.recs.length + 1) c9))) := Lib.hid (Keep.setCell ((((((HK3.out.trans HK5.out (fun _ h => h.elim)).trans HKX.out (fun _ h => h.elim)).mono (fun _ _ h => h.elim)).trans R2.out (fun b hb => .inl (HDX.out.o4 b hb))))) _ _ (.inl HDX.out.base.1))
    cases ok1 with
    | false =>
      go_wp2
      all_goals go_ret
      all_goals
        exact .inr ⟨by have hnl := HNL.out; unfold recipeF; rw [E1.out, HNF.out]; simp, rfl, HKL.out⟩
    | true =>
      by_cases h7 : n ≤ 7
      case pos =>
        have d6 : decide ((n : Int) ≤ 7) = true := by rw [decide_eq_true_eq]; omega
        have d8 : decide (n ≤ 7) = true := by rw [decide_eq_true_eq]; omega
        go_wp2
        all_goals go_ret
        all_goals
          have hBs : ∀ b, w3.heap.size ≤ b → B b := HDB.out.base.2
          have hu5 : Ints X9 (.slice a5 sn c5) (sortI ns) := (Ints.of_row (by have := HR5.out; rw [← HSN.out] at this ⊢; exact this)).keep HKX.out (fun _ _ _ h => h)
          refine .inl ⟨_, _, _, _, _, _, _, _, _, (by have hnl := HNL.out; unfold recipeF; rw [E1.out, HNF.out]; rw [decide_eq_true (p := 3 ≤ l.length) (by omega), decide_eq_true (p := l.length ≤ 7) (by omega)]; rfl), rfl, HDX.out.put4 (x := ⟨n1, sortI ns⟩) (u := .slice a5 sn c5) ?_ R2.out (fun b hb => R3.out b hb |>.imp id (fun h => h.1)) hu5 (fun b hb => hBs b (HO5.out b hb)), HKL.out⟩
          have := R1.out
          unfold Rec
          rw [List.length_append, List.length_singleton, flat_append, flat_one, HRL.out]
          exact this
      case neg =>
        have d6 : decide ((n : Int) ≤ 7) = false := by rw [decide_eq_false_iff_not]; omega
        have d8 : decide (n ≤ 7) = false := by rw [decide_eq_false_iff_not]; omega
        go_wp2
        all_goals go_ret
        all_goals
          exact .inr ⟨by have hnl := HNL.out; unfold recipeF; rw [E1.out, HNF.out]; rw [decide_eq_false (p := l.length ≤ 7) (by omega)]; simp, rfl, HKL.out⟩

set_option maxHeartbeats 16000000 in
theorem refLineRecipe_c {w : World} {B : Nat → Prop} {d : Nat} {D : DbM} {v1 v2 v3 v4 v5 v6 : Value} {rr : List (RecM × Value)} {ss : List (ShopM × Value)} (h : DbV B w d D v1 v2 v3 v4 v5 v6 rr ss) {g off cap : Nat} {l : List ByteArray} (hw : WsAt w g off cap l) (hg : ¬ B g)
    (_hl2 : l.length ≤ 1000000) (h0 : atW l 0 = wRecipe) (hn : D.recs.length ≤ 1000000) {ns : List Int} (hnf : numsF 1 1000 (l.drop 2) = some ns) (r1 : l.length = 2) (hcap : cap = 2) :
    Calls Tryz.prog 22 #[.pointer (some ⟨d, 0, none⟩), .slice (some ⟨g, off, none⟩) l.length cap] w (LineA B w d D (recipeF l)) := by
  have HV := Lib.hid h
  have HW : Hid (∀ w9, Keep (fun b => B b) w w9 → WsAt w9 g off cap l) := Lib.hid (fun w9 k => hw.keep k hg)
  obtain ⟨_, _, hv, hc1, hc2⟩ := hw.row.slice
  simp only [Value.slice.injEq] at hv
  obtain ⟨rfl, -, rfl⟩ := hv
  unfold maxLen at hc2
  obtain ⟨n1, ok1, e1⟩ : ∃ n ok, numF (atW l 1) 1 1000 = (n, ok) := ⟨_, _, rfl⟩
  have C1 := Lib.hid (fun w9 : World => refNum_any (w := w9) (atW l 1) 1 1000)
  rw [e1] at C1
  have E1 := Lib.hid e1
  have HNF := Lib.hid hnf
  have CN0 : Hid (∀ w9 : World, Keep (fun b => B b) w w9 → Calls Tryz.prog 78 #[.slice (some ⟨g, off, none⟩) 0 0, .int .i64 1, .int .i64 1000] w9 (NumsA (numsF 1 1000 (l.drop 2)) w9)) := Lib.hid (fun w9 k9 => refNums_any (show Seen w9 1 (.slice (some ⟨g, off, none⟩) 0 0) (l.drop 2).length (tcells (l.drop 2)) from by rw [show l.drop 2 = [] from List.drop_of_length_le (by omega)]; exact ⟨by simp [tcells], some ⟨g, off, none⟩, 0, rfl, Nat.le_refl _, by simp [maxLen], .inl rfl⟩) (by rw [List.length_drop]; omega) 1 1000)
  have CN : Hid (∀ w9 : World, Keep (fun b => B b) w w9 → Calls Tryz.prog 78 #[.slice (some ⟨g, off, none⟩) 0 0, .int .i64 1, .int .i64 1000] w9 fun e w' => ∃ v, e = .returned (.tuple #[v, .bool true]) ∧ Row w' 3 1 v ns.length (icells ns) ∧ Keep (fun _ => False) w9 w') := Lib.hid (fun w9 k9 => (CN0.out w9 k9).mono fun e w' hh => by
    rcases hh with ⟨l', v, hl', he, hr, ho, hk⟩ | ⟨hno, _⟩
    · rw [hnf] at hl'; cases hl'; exact ⟨v, he, hr, hk⟩
    · rw [hnf] at hno; cases hno)
  have hnsl : ns.length ≤ 1000000 := by rw [numsF_len _ _ _ _ hnf, List.length_drop]; omega
  have k0 : Keep (fun b => B b) w w := Keep.refl _ _
  have x0 := (HW.out w k0).cell (i := 0) (by omega)
  rw [h0, Nat.add_zero] at x0
  have x1 := (HW.out w k0).cell (i := 1) (by omega)
  obtain ⟨a1, c1, hv4, hcr, hcr2⟩ := h.l4.slice
  have hrl : rr.length = D.recs.length := by rw [← h.fr, List.length_map]
  rw [hrl] at hv4 hcr
  subst hv4
  have HRL := Lib.hid hrl
  unfold maxLen at hcr2
  obtain ⟨i0, hi0, hz0, hz1, hz2⟩ := info_parts Tryz.infoRecipe
  have hln : (l.length : Int) = 2 := by omega
  subst hcap
  clear h hw k0 h0 CN0 hnf hrl e1
  go_enter Tryz.func22, Tryz.ntmps22
  go_wp2_with (first | (go_at_call 74; (with_reducible refine (C1.out _).mono ?_); rintro e w' ⟨rfl, rfl⟩) | (go_at_call 78; (with_reducible refine (CN.out _ (Keep.refl _ _)).mono ?_); rintro e w3 ⟨va, rfl, r3, k3⟩; have HR3 := Lib.hid r3; have HK3 := Lib.hid k3; clear r3 k3))
  all_goals try (exfalso; omega)
  obtain ⟨ae, ce, rfl, hce, hce2⟩ := HR3.out.slice
  have HDB := Lib.hid (HV.out.keep HK3.out (fun _ _ _ h => h))
  have p0 : w3.cell? ⟨d, 3, none⟩ = some (.slice a1 D.recs.length c1) := (cell_of_row w3 d 3 _ _ _ HDB.out.blk).trans rfl
  have hds : d < w3.heap.size := lt_of_block HDB.out.blk
  have CS : Hid (Calls Tryz.prog 79 #[.slice ae ns.length ce] w3.drew fun e w' => ∃ a c, e = .returned (.slice a (sortI ns).length c) ∧ Row w' 3 1 (.slice a (sortI ns).length c) (sortI ns).length (icells (sortI ns)) ∧ (∀ b, (Value.slice a (sortI ns).length c).ownBlock = some b → w3.heap.size ≤ b) ∧ Keep (fun _ => False) w3 w') := Lib.hid ((refSorted_any (w := w3.drew) HR3.out.drew.seen hnsl).mono fun e w' hh => by
    obtain ⟨M, v', he, hso, hr, ho, hk⟩ := hh
    obtain rfl := hso.sortI
    obtain ⟨a, c, rfl, _, _⟩ := hr.slice
    exact ⟨a, c, he, hr, ho, ((Keep.refl _ w3).drew).trans hk (fun _ h => h.elim)⟩)
  generalize hsn : (sortI ns).length = sn at CS
  have HSN := Lib.hid hsn
  clear hsn
  go_region_law (first
    | (refine step_call1 (v0 := .slice ae ns.length ce) rfl rfl (enters_of Tryz.func79 (by kernel_rfl) rfl) (by simp [go_sem]) ?_; refine CS.out.mono ?_; rintro e w5 ⟨a5, c5, rfl, r5, o5, k5⟩; refine ⟨_, rfl, ?_⟩; have HR5 := Lib.hid r5; have HO5 := Lib.hid o5; have HK5 := Lib.hid k5; have p5 : w5.cell? ⟨d, 3, none⟩ = some (.slice a1 D.recs.length c1) := (k5.cell hds (fun h => h) _).trans p0; have hds5 : d < w5.heap.size := Nat.lt_of_lt_of_le hds k5.size; have HD5 := Lib.hid (HDB.out.keep k5 (fun _ _ _ h => h)); obtain ⟨X9, hX9⟩ : ∃ X9, X9 = w5.alloc (.cells (recC (⟨n1, sortI ns⟩, .slice a5 sn c5)).toArray 83) := ⟨_, rfl⟩; have HKX : Hid (Keep (fun _ => False) w5 X9) := Lib.hid (by rw [hX9]; exact (Keep.refl _ w5).alloc _); have HDX := Lib.hid (HD5.out.keep HKX.out (fun _ _ _ h => h)); have HRX : Hid (Row X9 83 2 (.slice (some ⟨w5.heap.size, 0, none⟩) 1 1) 1 (recC (⟨n1, sortI ns⟩, .slice a5 sn c5))) := Lib.hid (by rw [hX9]; exact Row.made (w := w5) (recC (⟨n1, sortI ns⟩, .slice a5 sn c5)).toArray w5.heap.size 1 rfl (by simp [maxLen]) (by simp [recC])); have HL4 : Hid (Row X9 83 2 (.slice a1 D.recs.length c1) D.recs.length (flat recC rr)) := Lib.hid (by have := HDX.out.l4; unfold Rec at this; rwa [HRL.out] at this); have HXE : Hid (w5.alloc (.cells #[.int .i64 n1, .slice a5 sn c5] 83) = X9) := Lib.hid hX9.symm; clear r5 o5 k5 hX9)
    | (rw [HXE.out]; refine step_append_row rfl (.tmp 228) (.tmp 233) rfl Tryz.underlying46 hi0 hz0 hz1 hz2 rfl (by simp [go_sem]) HL4.out (by simp [go_sem]) (HRX.out.src Tryz.underlying46 (by simp [recC, Value.oneCell'])) (by unfold maxLen; omega) (by omega) ?_; intro v9 w9 r1 r2 r3 _; obtain ⟨a9, c9, rfl, _, _⟩ := r1.slice; have nd : ¬ (Value.slice a1 D.recs.length c1).ownBlock = some d := fun e => (by obtain ⟨cs, f, hb⟩ := HL4.out.type e; exact ty_ne HDX.out.blk hb (by decide) rfl); have hb9 : w9.heap[d]? = some (.cells #[v1, v2, v3, .slice a1 D.recs.length c1, v5, v6] 50 (0, 0)) := (r2.block d (lt_of_block HDX.out.blk) nd).trans HDX.out.blk; have f9 : w9.frozen? ⟨d, 3, none⟩ = false := frozen_of_row _ _ _ _ _ hb9; have c9' : w9.cell? ⟨d, 3, none⟩ = some (.slice a1 D.recs.length c1) := (cell_of_row _ _ _ _ _ _ hb9).trans rfl; have R1 := Lib.hid r1; have R2 := Lib.hid r2; have R3 := Lib.hid r3; clear r1 r2 r3 hb9 nd))
  all_goals go_simp
  all_goals
    have HKL : Hid (Keep (fun b => B b) w (w9.setCell ⟨d, 3, none⟩ (.slice a9 (D.recs.length + 1) c9))) := Lib.hid (Keep.setCell ((((((HK3.out.trans HK5.out (fun _ h => h.elim)).trans HKX.out (fun _ h => h.elim)).mono (fun _ _ h => h.elim)).trans R2.out (fun b hb => .inl (HDX.out.o4 b hb))))) _ _ (.inl HDX.out.base.1))
    cases ok1 with
    | false =>
      go_wp2
      all_goals go_ret
      all_goals
        exact .inr ⟨by unfold recipeF; rw [E1.out, HNF.out]; simp, rfl, HKL.out⟩
    | true =>
      go_wp2
      all_goals go_ret
      all_goals
        exact .inr ⟨by unfold recipeF; rw [E1.out, HNF.out]; rw [decide_eq_false (p := 3 ≤ l.length) (by omega)]; simp, rfl, HKL.out⟩

set_option maxHeartbeats 16000000 in
theorem refLineRecipe_d {w : World} {B : Nat → Prop} {d : Nat} {D : DbM} {v1 v2 v3 v4 v5 v6 : Value} {rr : List (RecM × Value)} {ss : List (ShopM × Value)} (h : DbV B w d D v1 v2 v3 v4 v5 v6 rr ss) {g off cap : Nat} {l : List ByteArray} (hw : WsAt w g off cap l) (hg : ¬ B g)
    (_hl2 : l.length ≤ 1000000) (h0 : atW l 0 = wRecipe) (hn : D.recs.length ≤ 1000000) {ns : List Int} (hnf : numsF 1 1000 (l.drop 2) = some ns) (r1 : l.length = 2) (hcap : cap ≠ 2) :
    Calls Tryz.prog 22 #[.pointer (some ⟨d, 0, none⟩), .slice (some ⟨g, off, none⟩) l.length cap] w (LineA B w d D (recipeF l)) := by
  have HV := Lib.hid h
  have HW : Hid (∀ w9, Keep (fun b => B b) w w9 → WsAt w9 g off cap l) := Lib.hid (fun w9 k => hw.keep k hg)
  obtain ⟨_, _, hv, hc1, hc2⟩ := hw.row.slice
  simp only [Value.slice.injEq] at hv
  obtain ⟨rfl, -, rfl⟩ := hv
  unfold maxLen at hc2
  obtain ⟨n1, ok1, e1⟩ : ∃ n ok, numF (atW l 1) 1 1000 = (n, ok) := ⟨_, _, rfl⟩
  have C1 := Lib.hid (fun w9 : World => refNum_any (w := w9) (atW l 1) 1 1000)
  rw [e1] at C1
  have E1 := Lib.hid e1
  have HNF := Lib.hid hnf
  have CN0 : Hid (∀ w9 : World, Keep (fun b => B b) w w9 → Calls Tryz.prog 78 #[.slice (some ⟨g, off + 2, none⟩) 0 (cap - 2), .int .i64 1, .int .i64 1000] w9 (NumsA (numsF 1 1000 (l.drop 2)) w9)) := Lib.hid (fun w9 k9 => refNums_any (by have := (HW.out w9 k9).drop0 (k := 2) (by omega); rw [show l.length - 2 = 0 by omega] at this; exact this) (by rw [List.length_drop]; omega) 1 1000)
  have CN : Hid (∀ w9 : World, Keep (fun b => B b) w w9 → Calls Tryz.prog 78 #[.slice (some ⟨g, off + 2, none⟩) 0 (cap - 2), .int .i64 1, .int .i64 1000] w9 fun e w' => ∃ v, e = .returned (.tuple #[v, .bool true]) ∧ Row w' 3 1 v ns.length (icells ns) ∧ Keep (fun _ => False) w9 w') := Lib.hid (fun w9 k9 => (CN0.out w9 k9).mono fun e w' hh => by
    rcases hh with ⟨l', v, hl', he, hr, ho, hk⟩ | ⟨hno, _⟩
    · rw [hnf] at hl'; cases hl'; exact ⟨v, he, hr, hk⟩
    · rw [hnf] at hno; cases hno)
  have hnsl : ns.length ≤ 1000000 := by rw [numsF_len _ _ _ _ hnf, List.length_drop]; omega
  have k0 : Keep (fun b => B b) w w := Keep.refl _ _
  have x0 := (HW.out w k0).cell (i := 0) (by omega)
  rw [h0, Nat.add_zero] at x0
  have x1 := (HW.out w k0).cell (i := 1) (by omega)
  obtain ⟨a1, c1, hv4, hcr, hcr2⟩ := h.l4.slice
  have hrl : rr.length = D.recs.length := by rw [← h.fr, List.length_map]
  rw [hrl] at hv4 hcr
  subst hv4
  have HRL := Lib.hid hrl
  unfold maxLen at hcr2
  obtain ⟨i0, hi0, hz0, hz1, hz2⟩ := info_parts Tryz.infoRecipe
  have hln : (l.length : Int) = 2 := by omega
  have hcp : 2 < cap := by omega
  have hcz : ((cap : Int) == 2) = false := by rw [beq_eq_false_iff_ne]; omega
  clear h hw k0 h0 CN0 hnf hrl e1
  go_enter Tryz.func22, Tryz.ntmps22
  go_wp2_with (first | (go_at_call 74; (with_reducible refine (C1.out _).mono ?_); rintro e w' ⟨rfl, rfl⟩) | (go_at_call 78; (with_reducible refine (CN.out _ (Keep.refl _ _)).mono ?_); rintro e w3 ⟨va, rfl, r3, k3⟩; have HR3 := Lib.hid r3; have HK3 := Lib.hid k3; clear r3 k3))
  all_goals try (exfalso; omega)
  obtain ⟨ae, ce, rfl, hce, hce2⟩ := HR3.out.slice
  have HDB := Lib.hid (HV.out.keep HK3.out (fun _ _ _ h => h))
  have p0 : w3.cell? ⟨d, 3, none⟩ = some (.slice a1 D.recs.length c1) := (cell_of_row w3 d 3 _ _ _ HDB.out.blk).trans rfl
  have hds : d < w3.heap.size := lt_of_block HDB.out.blk
  have CS : Hid (Calls Tryz.prog 79 #[.slice ae ns.length ce] w3.drew fun e w' => ∃ a c, e = .returned (.slice a (sortI ns).length c) ∧ Row w' 3 1 (.slice a (sortI ns).length c) (sortI ns).length (icells (sortI ns)) ∧ (∀ b, (Value.slice a (sortI ns).length c).ownBlock = some b → w3.heap.size ≤ b) ∧ Keep (fun _ => False) w3 w') := Lib.hid ((refSorted_any (w := w3.drew) HR3.out.drew.seen hnsl).mono fun e w' hh => by
    obtain ⟨M, v', he, hso, hr, ho, hk⟩ := hh
    obtain rfl := hso.sortI
    obtain ⟨a, c, rfl, _, _⟩ := hr.slice
    exact ⟨a, c, he, hr, ho, ((Keep.refl _ w3).drew).trans hk (fun _ h => h.elim)⟩)
  generalize hsn : (sortI ns).length = sn at CS
  have HSN := Lib.hid hsn
  clear hsn
  go_region_law (first
    | (refine step_call1 (v0 := .slice ae ns.length ce) rfl rfl (enters_of Tryz.func79 (by kernel_rfl) rfl) (by simp [go_sem]) ?_; refine CS.out.mono ?_; rintro e w5 ⟨a5, c5, rfl, r5, o5, k5⟩; refine ⟨_, rfl, ?_⟩; have HR5 := Lib.hid r5; have HO5 := Lib.hid o5; have HK5 := Lib.hid k5; have p5 : w5.cell? ⟨d, 3, none⟩ = some (.slice a1 D.recs.length c1) := (k5.cell hds (fun h => h) _).trans p0; have hds5 : d < w5.heap.size := Nat.lt_of_lt_of_le hds k5.size; have HD5 := Lib.hid (HDB.out.keep k5 (fun _ _ _ h => h)); obtain ⟨X9, hX9⟩ : ∃ X9, X9 = w5.alloc (.cells (recC (⟨n1, sortI ns⟩, .slice a5 sn c5)).toArray 83) := ⟨_, rfl⟩; have HKX : Hid (Keep (fun _ => False) w5 X9) := Lib.hid (by rw [hX9]; exact (Keep.refl _ w5).alloc _); have HDX := Lib.hid (HD5.out.keep HKX.out (fun _ _ _ h => h)); have HRX : Hid (Row X9 83 2 (.slice (some ⟨w5.heap.size, 0, none⟩) 1 1) 1 (recC (⟨n1, sortI ns⟩, .slice a5 sn c5))) := Lib.hid (by rw [hX9]; exact Row.made (w := w5) (recC (⟨n1, sortI ns⟩, .slice a5 sn c5)).toArray w5.heap.size 1 rfl (by simp [maxLen]) (by simp [recC])); have HL4 : Hid (Row X9 83 2 (.slice a1 D.recs.length c1) D.recs.length (flat recC rr)) := Lib.hid (by have := HDX.out.l4; unfold Rec at this; rwa [HRL.out] at this); have HXE : Hid (w5.alloc (.cells #[.int .i64 n1, .slice a5 sn c5] 83) = X9) := Lib.hid hX9.symm; clear r5 o5 k5 hX9)
    | (rw [HXE.out]; refine step_append_row rfl (.tmp 228) (.tmp 233) rfl Tryz.underlying46 hi0 hz0 hz1 hz2 rfl (by simp [go_sem]) HL4.out (by simp [go_sem]) (HRX.out.src Tryz.underlying46 (by simp [recC, Value.oneCell'])) (by unfold maxLen; omega) (by omega) ?_; intro v9 w9 r1 r2 r3 _; obtain ⟨a9, c9, rfl, _, _⟩ := r1.slice; have nd : ¬ (Value.slice a1 D.recs.length c1).ownBlock = some d := fun e => (by obtain ⟨cs, f, hb⟩ := HL4.out.type e; exact ty_ne HDX.out.blk hb (by decide) rfl); have hb9 : w9.heap[d]? = some (.cells #[v1, v2, v3, .slice a1 D.recs.length c1, v5, v6] 50 (0, 0)) := (r2.block d (lt_of_block HDX.out.blk) nd).trans HDX.out.blk; have f9 : w9.frozen? ⟨d, 3, none⟩ = false := frozen_of_row _ _ _ _ _ hb9; have c9' : w9.cell? ⟨d, 3, none⟩ = some (.slice a1 D.recs.length c1) := (cell_of_row _ _ _ _ _ _ hb9).trans rfl; have R1 := Lib.hid r1; have R2 := Lib.hid r2; have R3 := Lib.hid r3; clear r1 r2 r3 hb9 nd))
  all_goals go_simp
  all_goals
    have HKL : Hid (Keep (fun b => B b) w (w9.setCell ⟨d, 3, none⟩ (.slice a9 (D.recs.length + 1) c9))) := Lib.hid (Keep.setCell ((((((HK3.out.trans HK5.out (fun _ h => h.elim)).trans HKX.out (fun _ h => h.elim)).mono (fun _ _ h => h.elim)).trans R2.out (fun b hb => .inl (HDX.out.o4 b hb))))) _ _ (.inl HDX.out.base.1))
    cases ok1 with
    | false =>
      go_wp2
      all_goals go_ret
      all_goals
        exact .inr ⟨by unfold recipeF; rw [E1.out, HNF.out]; simp, rfl, HKL.out⟩
    | true =>
      go_wp2
      all_goals go_ret
      all_goals
        exact .inr ⟨by unfold recipeF; rw [E1.out, HNF.out]; rw [decide_eq_false (p := 3 ≤ l.length) (by omega)]; simp, rfl, HKL.out⟩

theorem refLineRecipe_any {w : World} {B : Nat → Prop} {d : Nat} {D : DbM} {v1 v2 v3 v4 v5 v6 : Value} {rr : List (RecM × Value)} {ss : List (ShopM × Value)} (h : DbV B w d D v1 v2 v3 v4 v5 v6 rr ss) {g off cap : Nat} {l : List ByteArray} (hw : WsAt w g off cap l) (hg : ¬ B g)
    (hl : 2 ≤ l.length) (hl2 : l.length ≤ 1000000) (h0 : atW l 0 = wRecipe) (hn : D.recs.length ≤ 1000000) :
    Calls Tryz.prog 22 #[.pointer (some ⟨d, 0, none⟩), .slice (some ⟨g, off, none⟩) l.length cap] w (LineA B w d D (recipeF l)) := by
  by_cases h2 : l.length = 2
  · have hd : numsF 1 1000 (l.drop 2) = some [] := by rw [List.drop_of_length_le (by omega)]; rfl
    by_cases hc : cap = 2
    · exact refLineRecipe_c h hw hg hl2 h0 hn hd h2 hc
    · exact refLineRecipe_d h hw hg hl2 h0 hn hd h2 hc
  · have h3 : 3 ≤ l.length := by omega
    cases hnf : numsF 1 1000 (l.drop 2) with
    | none => exact refLineRecipe_a h hw hg hl2 h0 hn hnf h3
    | some ns => exact refLineRecipe_b h hw hg hl2 h0 hn hnf h3
end Go.Proofs.YtcodbomgodkcmaaGreatDoor.Wd
