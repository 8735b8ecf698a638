/- Files on blocks: learn. -/
import Derived.Test.YtdkigiemhkoijaaDoorFirst
import Derived.Deep.RegionHeld3
namespace Go.Proofs.YtdkigiemhkoijaaDoor.Ino
open Go.RowKit Go.Maps Go.Proofs.YtdkigiemhkoijaaDoor
set_option maxRecDepth 100000

/-- The table when i numbers of an indirect block were learnt. -/
def learnI (U L : List Nat) (fr i : Nat) : List Nat := U.take fr ++ L.take i ++ U.drop (fr + i)

theorem learnI_length {U L : List Nat} {fr i : Nat} (hi : i ≤ L.length) (hf : fr + L.length ≤ U.length) : (learnI U L fr i).length = U.length := by
  simp [learnI]; omega

theorem learnI_step {U L : List Nat} {fr i x : Nat} (hi : i < L.length) (hf : fr + L.length ≤ U.length) (hx : x = L[i]) : (learnI U L fr i).set (fr + i) x = learnI U L fr (i + 1) := by
  subst hx
  have h1 : (U.take fr ++ L.take i).length = fr + i := by simp; omega
  unfold learnI
  rw [List.set_append_right _ _ (by omega), h1, Nat.sub_self, List.take_succ_eq_append_getElem hi, List.drop_eq_getElem_cons (by omega), List.set_cons_zero]
  simp only [List.append_assoc, List.cons_append, List.nil_append, Nat.add_assoc]

theorem pgL_drop (L : List Nat) {i : Nat} (hi : i < L.length) : (pgL L).drop (4 * i) = le32 L[i] ++ pgL (L.drop (i + 1)) := by
  have h := List.take_append_drop i L
  have h2 : pgL L = pgL (L.take i) ++ pgL (L.drop i) := by
    have e : pgL (L.take i ++ L.drop i) = pgL (L.take i) ++ pgL (L.drop i) := List.flatMap_append
    rw [h] at e; exact e
  have h3 : (pgL (L.take i)).length = 4 * i := by rw [pgL_length, List.length_take]; omega
  rw [h2, ← h3, List.drop_left, List.drop_eq_getElem_cons hi]
  exact List.flatMap_cons

theorem learnI_named {U L : List Nat} {fr : Nat} (hf : fr + L.length ≤ U.length) : ((learnI U L fr L.length).drop fr).take L.length = L := by
  unfold learnI
  rw [List.append_assoc, List.drop_append_of_le_length (by rw [List.length_take]; omega), List.drop_of_length_le (by rw [List.length_take]; omega), List.nil_append, List.take_append_of_le_length (by rw [List.length_take]; omega), List.take_length, List.take_length]

structure LrnR (w w1 : World) (F : Nat → Prop) (p s : Nat) (S : Sto) (size : Nat) (U L : List Nat) (fr : Nat) (iv : Value) (wr : World) : Prop where
  ex : ∃ i : Nat, i ≤ L.length ∧ iv = .int .i64 (i : Int) ∧ IsFile wr F p s S size (learnI U L fr i) ∧ Keep (fun x => x = p) w1 wr

theorem learnI_mem {U L : List Nat} {fr i y : Nat} (h : y ∈ learnI U L fr i) : y ∈ U ∨ y ∈ L := by
  simp only [learnI, List.mem_append] at h
  rcases h with (h | h) | h
  · exact .inl (List.mem_of_mem_take h)
  · exact .inr (List.mem_of_mem_take h)
  · exact .inl (List.mem_of_mem_drop h)

/-- A number of a file's table told anew. -/
theorem IsFile.setnum {w : World} {F : Nat → Prop} {p s : Nat} {S : Sto} {size : Nat} {U : List Nat} (h : IsFile w F p s S size U) (k x : Nat) (hx : x < 4294967296) : IsFile (w.setCell ⟨p, 2 + k, none⟩ (.int .u32 (x : Int))) F p s S size (U.set k x) := by
  have hs := heap_setCell_at (i := 2 + k) (.int .u32 (x : Int)) h.head
  have hk : Keep (fun y => y = p) w (w.setCell ⟨p, 2 + k, none⟩ (.int .u32 (x : Int))) := (Keep.refl _ w).setCell _ _ (.inl rfl)
  obtain ⟨b, D, hst⟩ := h.sto
  refine ⟨?_, ⟨b, D, hst.keep hk (fun y hy e => h.pF (e ▸ hy))⟩, h.pF, by rw [List.length_set]; exact h.len, fun y hy => ?_⟩
  · rw [hs, ← tabL_set]
    simp [Nat.add_comm 2 k]
  · rcases List.mem_or_eq_of_mem_set hy with hy | rfl
    · exact h.fit y hy
    · exact hx

set_option maxHeartbeats 1000000 in
theorem learn_any {w : World} {F : Nat → Prop} {p s : Nat} {S : Sto} {size : Nat} {U T : List Nat} (h : IsFile w F p s S size U) (hT : T.length = 203) (hfT : ∀ x ∈ T, x < 4294967296) (k : Nat) (hk : k = 200 ∨ k = 201 ∨ k = 202) :
    Calls Tryd.prog 20 #[.pointer (some ⟨p, 2, none⟩), .int .i64 (k : Int), .agg (blkC (page T k))] w fun e w' => e = .returned (.bool true) ∧ IsFile w' F p s S size (learnI U (namedL T k) (namedFrom k) (namedTo k - namedFrom k)) ∧ Keep (fun x => x = p) w w' := by
  have H := Lib.hid h
  have hB : (page T k).length = 512 := by
    have := namedL_length hT hk
    simp only [page, List.length_append, pgL_length, List.length_replicate, this]
    rcases hk with rfl | rfl | rfl <;> simp [namedTo, namedFrom]
  obtain ⟨Z, hzv, hz5, hz1, HZ⟩ := z512
  have HZV := Lib.hid hzv
  have HNM := Lib.hid (fun w : World => named_any (w := w) k hk)
  clear h hzv
  obtain ⟨L, hLL⟩ : ∃ L, L = namedL T k := ⟨_, rfl⟩
  have hLl : L.length = namedTo k - namedFrom k := by rw [hLL]; exact namedL_length hT hk
  have hBB : page T k = pgL L ++ List.replicate (512 - 4 * L.length) 0 := by rw [hLL]; rfl
  have hLf : ∀ x ∈ L, x < 4294967296 := fun x hx => by
    rw [hLL] at hx
    exact hfT x (List.mem_of_mem_drop (List.mem_of_mem_take hx))
  have hfr : namedFrom k ≤ namedTo k ∧ namedTo k ≤ 202 ∧ namedTo k - namedFrom k ≤ 128 := by rcases hk with rfl | rfl | rfl <;> simp [namedTo, namedFrom]
  obtain ⟨fr, hfr1⟩ : ∃ fr, fr = namedFrom k := ⟨_, rfl⟩
  obtain ⟨to, hto1⟩ : ∃ to, to = namedTo k := ⟨_, rfl⟩
  rw [← hfr1, ← hto1] at hfr hLl HNM
  obtain ⟨n, hn⟩ : ∃ n, n = to - fr := ⟨_, rfl⟩
  have e1 : (to : Int) - (fr : Int) = (n : Int) := by omega
  rw [← hLL, ← hfr1, ← hto1, ← hn]
  rw [← hn] at hLl
  have hb1 : (fr : Int) ≤ 202 := by omega
  have hb2 : (to : Int) ≤ 202 := by omega
  have hb3 : (n : Int) ≤ 128 := by omega
  have HFR := Lib.hid hfr; have HN := Lib.hid hn
  obtain ⟨B, hB2⟩ : ∃ B, B = page T k := ⟨_, rfl⟩
  rw [← hB2] at hB hBB ⊢
  have HBB := Lib.hid hBB
  have HPK := Lib.hid hB2; have HKK := Lib.hid hk
  have HNN := Lib.hid (And.intro hfr1 (And.intro hto1 hLL))
  clear hB2 hBB hfr hn hLL hfr1 hto1 hk
  have K0 : Hid (Keep (fun _ => False) w (w.alloc (.cells (blkC B) 59))) := Lib.hid ((Keep.refl _ w).alloc _)
  have B0 : Hid ((w.alloc (.cells (blkC B) 59)).heap[w.heap.size]? = some (.cells (blkC B) 59 (0, 0))) := Lib.hid (heap_alloc_new w _)
  have hpw := H.out.lt.2
  go_enter Tryd.func20, Tryd.ntmps20
  go_wp2_with (first | (refine wpList_var_blk HZV hz5 rfl rfl rfl _ _ rfl B hB rfl rfl ?_) | (go_at_call 36; refine (HNM.out _).mono ?_; rintro e w1 ⟨rfl, rfl⟩))
  generalize w.alloc (.cells (blkC B) 59) = w1 at *
  have H1 := Lib.hid (H.out.keep0 K0.out)
  have hU := H.out.len
  go_loopw [18] (fun iv wr => LrnR w w1 F p s S size U L fr iv wr) (fun iv _ => n - (intOf iv).toNat)
  case atStart => exact ⟨0, by omega, rfl, by simpa [learnI] using H1.out, Keep.refl _ w1⟩
  case round =>
    obtain ⟨i, hi, rfl, hI, hK⟩ := hrel.ex
    have HI := Lib.hid hI; have HK := Lib.hid hK
    clear hI hK hrel
    by_cases hlt : i < n
    · have hd : decide (i < n) = true := by rw [decide_eq_true_eq]; exact hlt
      obtain ⟨q, hq⟩ : ∃ q, q = fr + i := ⟨_, rfl⟩
      have e2 : (fr : Int) + (i : Int) = (q : Int) := by omega
      obtain ⟨o, ho⟩ : ∃ o, o = 4 * i := ⟨_, rfl⟩
      have e3 : 4 * (i : Int) = (o : Int) := by omega
      have hol : o + 4 ≤ 512 := by have := HFR.out; have := HN.out; omega
      have hql : q < 202 := by have := HFR.out; have := HN.out; omega
      have hsl := fun w' => slBlkLo w.heap.size o (by omega) w'
      obtain ⟨x, hx⟩ : ∃ x, x = L[i]'(by omega) := ⟨_, rfl⟩
      have hxf : x < 4294967296 := by rw [hx]; exact hLf _ (List.getElem_mem _)
      have hdrop : B.drop o = le32 x ++ (pgL (L.drop (i + 1)) ++ List.replicate (512 - 4 * L.length) 0) := by
        rw [HBB.out, List.drop_append_of_le_length (by rw [pgL_length]; omega), ho, pgL_drop L (by omega), hx, List.append_assoc]
      have hbw : wr.heap[w.heap.size]? = some (.cells (blkC B) 59 (0, 0)) := (HK.out.block _ (lt_of_block B0.out) (by omega)).trans B0.out
      have hrow : Row wr 59 1 (.slice (some ⟨w.heap.size, o, none⟩) (512 - o) (512 - o)) (512 - o) (bcells (B.drop o)) := by
        refine ⟨by simp [bcells_length, hB], .inr ⟨_, _, _, _, 0, 0, rfl, hbw, Nat.le_refl _, by unfold maxLen; omega, ?_, .inl (Nat.le_refl _), ?_⟩⟩
        · rw [blkC_size, hB]; omega
        · simp only [blkC, bcells, List.map_drop]
          rw [List.take_of_length_le (by simp [hB])]
      rw [hdrop] at hrow
      obtain ⟨v0, q1⟩ : ∃ v0, wr.cell? ⟨w.heap.size, 0, none⟩ = some v0 := ⟨(blkC B)[0]'(by rw [blkC_size, hB]; omega), by rw [cell_of_row _ _ _ _ _ _ hbw]; simp⟩
      have HSN := Lib.hid (hrow.drew).seen
      have HST := Lib.hid (fun (w5 : World) (k5 : Keep (fun _ => False) wr w5) => by
        have h := (HI.out.keep0 k5).setnum q x hxf
        rw [hq, learnI_step (by omega) (by omega) hx, ← hq] at h
        exact (And.intro h ((HK.out.trans k5 (fun _ h => h.elim)).setCell ⟨p, 2 + q, none⟩ (.int .u32 (x : Int)) (.inl rfl)) : IsFile (w5.setCell ⟨p, 2 + q, none⟩ (.int .u32 (x : Int))) F p s S size (learnI U L fr (i + 1)) ∧ Keep (fun x => x = p) w1 (w5.setCell ⟨p, 2 + q, none⟩ (.int .u32 (x : Int)))))
      clear hrow hdrop hbw hx hq ho
      have hne : ¬ w.heap.size = p := by omega
      have hne2 : ¬ p = w.heap.size := by omega
      have hw1 := i64_nat o (by omega)
      have hw2 := i64_nat q (by omega)
      have hq6 : (0 : Int) ≤ (q : Int) := by omega
      have hq7 : (q : Int) < 203 := by omega
      have HCL := Lib.hid (fun (w5 : World) (k5 : Keep (fun _ => False) wr w5) => by
        have h := (HI.out.keep0 k5).num q (by omega)
        have h2 := frozen_of_row _ _ (2 + q) _ _ (HI.out.keep0 k5).head
        exact (And.intro h h2 : w5.cell? ⟨p, 2 + q, none⟩ = some (.int .u32 ((tg (learnI U L fr i) q : Nat) : Int)) ∧ w5.frozen? ⟨p, 2 + q, none⟩ = false))
      go_wp2_with fail
      go_region_held3 (fun w' => w'.cell? ⟨w.heap.size, 0, none⟩ = some v0) (go_keep) (first | (go_at_call 32; refine (get32_any hxf HSN.out).mono ?_; rintro e w5 ⟨rfl, k5⟩; have k6 : Keep (fun _ => False) wr w5 := ((Keep.refl (fun _ => False) wr).drew).trans k5 (fun _ h => h.elim); have HS5 := Lib.hid (HST.out w5 k6); obtain ⟨d1, d2⟩ := HCL.out w5 k6; have q11 : w5.cell? ⟨w.heap.size, 0, none⟩ = some v0 := (k6.cell (World.block_lt_of_cell? _ _ q1) (fun h => h) _).trans q1; clear k5 k6))
      all_goals go_wp2
      all_goals
        go_roundw
        case rel => exact ⟨i + 1, by omega, by go_num, HS5.out.1, HS5.out.2⟩
        case measure => first | (simp [intOf]; done) | (simp [intOf]; omega)
    · have hd : decide (i < n) = false := by rw [decide_eq_false_iff_not]; exact hlt
      obtain rfl : i = n := by omega
      have hdd : ¬ (i : Int) < (i : Int) := by omega
      have HPG := Lib.hid (fun (w5 : World) (k5 : Keep (fun _ => False) wr w5) => page_any (g := p) (off := 2) (.inr rfl) (by rw [learnI_length (by omega) (by have := HFR.out; have := HN.out; omega)]; exact hU) (fun y hy => (learnI_mem hy).elim (H.out.fit y) (hLf y)) (HI.out.keep0 k5).range k HKK.out (k : Int) rfl)
      have hbw : wr.heap[w.heap.size]? = some (.cells (blkC B) 59 (0, 0)) := (HK.out.block _ (lt_of_block B0.out) (by omega)).trans B0.out
      have q2 : wr.rangeAt w.heap.size 0 (bcells B) := fun j v hv => by
        rw [Nat.zero_add, cell_of_row _ _ _ _ _ _ hbw, blkC, List.getElem?_toArray]; exact hv
      have hu := Tryd.underlying59
      have hinf : (Tryd.prog.info? 59).map (·.size) = some (bcells B).length := by rw [bcells_length, hB]; exact Tryd.infoBlk
      have hpg : page (learnI U L fr i) k = B := by
        have h1 : namedL (learnI U L fr i) k = L := by
          have h := learnI_named (U := U) (L := L) (fr := fr) (by have := HFR.out; have := HN.out; omega)
          rw [namedL, ← HNN.out.1, ← HNN.out.2.1, ← HN.out, ← hLl]
          exact h
        rw [page, h1, HBB.out]
      rw [hpg] at HPG
      have heq := fun w => eq_blk w B B hB hB 9998
      simp only [decide_true] at heq
      have heq2 : ∀ w : World, (Op.equalIn 10000 59 (.agg (blkC B)) (.agg (bcells B).toArray)).run Tryd.prog w = .ok true w := heq
      have hgt := Tryd.eqTypeBlk
      have HIE := Lib.hid (fun (w5 : World) (k5 : Keep (fun _ => False) wr w5) => And.intro (HI.out.keep0 k5) (HK.out.trans k5 (fun _ h => h.elim)))
      clear hpg hbw
      go_wp2_with fail
      go_region_held3 (fun w' => w'.rangeAt w.heap.size 0 (bcells B)) (go_keep) (first | (go_at_call 37; refine (HPG.out _ ((Keep.refl (fun _ => False) wr).drew)).mono ?_; rintro e w5 ⟨rfl, k5⟩; have k6 : Keep (fun _ => False) wr w5 := ((Keep.refl (fun _ => False) wr).drew).trans k5 (fun _ h => h.elim); have HE5 := Lib.hid (HIE.out w5 k6); have q21 : w5.rangeAt w.heap.size 0 (bcells B) := fun j v hv => (k6.cell (World.block_lt_of_cell? _ _ (q2 j v hv)) (fun h => h) _).trans (q2 j v hv); clear k5 k6))
      all_goals go_wp2_with fail
      all_goals go_ret
      all_goals
        have hK : Keep (fun x => x = p) w w5 := (K0.out.mono (fun _ _ h => h.elim)).trans HE5.out.2 (fun x hx => .inl hx)
        exact ⟨rfl, hLl ▸ HE5.out.1, hK⟩

end Go.Proofs.YtdkigiemhkoijaaDoor.Ino
