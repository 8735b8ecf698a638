/- The program's Make (made by tools/genmake16.py). -/
import Derived.Test.YtheaghgockafmaaGreatEbJ
import Derived.Test.YtheaghgockafmaaGreatWfT
import Derived.Deep.CutRange
import Derived.Deep.CutBlock
namespace Go.Proofs.YtheaghgockafmaaGreat.Wd
open Go.RowKit Go.Maps Go.Proofs.YtheaghgockafmaaGreat Go.Proofs.YtheaghgockafmaaGreat.Lin
set_option maxRecDepth 100000

theorem Row.clip {w : World} {e size n : Nat} {a : Option Addr} {c : Nat} {xs : List Value} (h : Row w e size (.slice a n c) n xs) : Row w e size (.slice a n n) n xs := by
  refine ⟨h.1, ?_⟩
  rcases h.2 with ⟨h1, h2⟩ | ⟨g, off, cap, cur, lo, hi, h1, h2, h3, h4, h5, h6, h7⟩
  · cases h1
    exact .inl ⟨rfl, rfl⟩
  · have hm := Nat.mul_le_mul_right size h3
    simp only [Value.slice.injEq] at h1
    obtain ⟨rfl, -, rfl⟩ := h1
    exact .inr ⟨g, off, n, cur, lo, hi, rfl, h2, Nat.le_refl _, by omega, by omega, by omega, h7⟩
theorem own_cap (a : Option Addr) (n c c' : Nat) (b : Nat) : (Value.slice a n c).ownBlock = some b ↔ (Value.slice a n c').ownBlock = some b := by cases a <;> exact Iff.rfl
theorem zThing16 : ∀ w : World, (zeroValue 29).run Tryz.prog w = .ok (.agg #[.int .i64 0, .int .i64 0, .int .i64 0, .int .i64 0, .string ⟨#[]⟩]) w := fun w => by kernel_rfl
theorem Tryz.infoThing16 : (Tryz.prog.info? 29).map (fun i => (i.zero.map (·.cells.size), i.size, i.bytes)) = some (some 5, 5, 48) := by kernel_rfl

theorem clipT_any {w : World} {a : Option Addr} {n c : Nat} (h1 : n ≤ c) (_h2 : c ≤ 2 ^ 63 - 1) : Calls Tryz.prog 39 #[.slice a n c] w fun e w' => e = .returned (.slice a n n) ∧ w = w' := by
  have e1 : decide ((n : Int) ≤ (c : Int)) = true := by rw [decide_eq_true_eq]; omega
  go_enter Tryz.func39, Tryz.ntmps39
  go_wp2
  all_goals go_ret
  all_goals exact ⟨by simp, rfl⟩
set_option maxHeartbeats 16000000 in
theorem entMake_any {N : Nat → Prop} {w : World} {q : Nat} {W : WM} (h : WAt N w q W) (hl : W.things.length ≤ 1000) (hnx : W.next ≠ 9223372036854775807) (hNl : ∀ b, N b → b < w.heap.size) (proto id9 proto9 place room : Int) (who : ByteArray) :
    Calls Tryz.prog 10 #[.pointer (some ⟨q, 0, none⟩), .int .i64 proto, .agg #[.int .i64 id9, .int .i64 proto9, .int .i64 place, .int .i64 room, .string who]] w fun e w' => e = .returned (.bool (decide (W.things.length < 200))) ∧ WE N w w' q (if W.things.length < 200 then madeW W proto place room who else W) := by
  obtain ⟨i0, z0, hi0, hz0, hz1, hz2, hz3⟩ := info_cells Tryz.infoThing16
  have hz9 := zThing16
  obtain ⟨v1, v2, v3, v4, v5, v6, cr, hr, h⟩ := h
  have KB : Hid (Keep (fun _ => False) w (w.alloc (.cells #[.int .i64 id9, .int .i64 proto9, .int .i64 place, .int .i64 room, .string who] 29))) := Lib.hid ((Keep.refl _ w).alloc _)
  have HBX : Hid ((w.alloc (.cells #[.int .i64 id9, .int .i64 proto9, .int .i64 place, .int .i64 room, .string who] 29)).heap[w.heap.size]? = some (.cells #[.int .i64 id9, .int .i64 proto9, .int .i64 place, .int .i64 room, .string who] 29 (0, 0))) := Lib.hid (heap_alloc_new w _)
  have H1 := Lib.hid (h.keep KB.out (fun _ _ e => e))
  obtain ⟨wb, hwb⟩ : ∃ wb, wb = w.alloc (.cells #[.int .i64 id9, .int .i64 proto9, .int .i64 place, .int .i64 room, .string who] 29) := ⟨_, rfl⟩
  have HWB := Lib.hid hwb
  rw [← hwb] at KB HBX H1
  obtain ⟨a4, d4, rfl, hd4, hm4⟩ := H1.out.things.slice
  unfold maxLen at hm4
  have q4 : wb.cell? ⟨q, 4, none⟩ = some (.slice a4 W.things.length d4) := (cell_of_row wb q 4 _ _ _ H1.out.blk).trans rfl
  obtain ⟨n1, hn1⟩ : ∃ n1, n1 = W.next := ⟨_, rfl⟩
  have HN1 := Lib.hid hn1
  have q1 : wb.cell? ⟨q, 1, none⟩ = some (.int .i64 n1) := (cell_of_row wb q 1 _ _ _ H1.out.blk).trans (by rw [hn1]; rfl)
  have b2 : wb.cell? ⟨w.heap.size, 2, none⟩ = some (.int .i64 place) := (cell_of_row wb w.heap.size 2 _ _ _ HBX.out).trans rfl
  have b3 : wb.cell? ⟨w.heap.size, 3, none⟩ = some (.int .i64 room) := (cell_of_row wb w.heap.size 3 _ _ _ HBX.out).trans rfl
  have b4 : wb.cell? ⟨w.heap.size, 4, none⟩ = some (.string who) := (cell_of_row wb w.heap.size 4 _ _ _ HBX.out).trans rfl
  have hnx2 : (n1 == 9223372036854775807) = false := by rw [beq_eq_false_iff_ne, hn1]; exact hnx
  have HVB : Hid (∀ b, N b → b < w.heap.size) := Lib.hid hNl
  have HOB : Hid (∀ b, (Value.slice a4 W.things.length d4).ownBlock = some b → b < w.heap.size) := Lib.hid (fun b hb => hNl b (h.nv _ (by simp) b hb))
  have hsz : wb.heap.size = w.heap.size + 1 := by rw [hwb]; simp
  have q41 : (w.alloc (.cells #[.int .i64 id9, .int .i64 proto9, .int .i64 place, .int .i64 room, .string who] 29)).cell? ⟨q, 4, none⟩ = some (.slice a4 W.things.length d4) ∧ (w.alloc (.cells #[.int .i64 id9, .int .i64 proto9, .int .i64 place, .int .i64 room, .string who] 29)).cell? ⟨q, 1, none⟩ = some (.int .i64 n1) := by rw [← hwb]; exact ⟨q4, q1⟩
  obtain ⟨q4', q1'⟩ := q41
  clear h hn1 hnx hNl hwb
  by_cases hlt : W.things.length < 200
  · have d1 : decide (200 ≤ (W.things.length : Int)) = false := by rw [decide_eq_false_iff_not]; omega
    have d2 : decide (200 ≤ W.things.length) = false := by rw [decide_eq_false_iff_not]; omega
    rw [if_pos hlt, decide_eq_true hlt]
    go_enter Tryz.func10, Tryz.ntmps10
    go_upto_region 3 with (fail)
    rw [HWB.out.symm]
    clear HWB q4' q1'
    generalize hbs : w.heap.size = bs at *
    have HS3 : Hid ((fun w9 : World => w9.cell? ⟨q, 1, none⟩ = some (.int .i64 n1) ∧ w9.cell? ⟨bs, 2, none⟩ = some (.int .i64 place) ∧ w9.cell? ⟨bs, 3, none⟩ = some (.int .i64 room) ∧ w9.cell? ⟨bs, 4, none⟩ = some (.string who)) wb.drew) := Lib.hid ⟨q1, b2, b3, b4⟩
    have HG3 : Hid (∀ w9 : World, Keep (fun _ => False) wb.drew w9 → (fun w9 : World => w9.cell? ⟨q, 1, none⟩ = some (.int .i64 n1) ∧ w9.cell? ⟨bs, 2, none⟩ = some (.int .i64 place) ∧ w9.cell? ⟨bs, 3, none⟩ = some (.int .i64 room) ∧ w9.cell? ⟨bs, 4, none⟩ = some (.string who)) w9) := Lib.hid (fun w9 k9 => by
      have hS9 := HS3.out
      obtain ⟨z0, z1, z2, z3⟩ := hS9
      exact ⟨(k9.cell (World.block_lt_of_cell? _ _ z0) (fun h => h) _).trans z0, (k9.cell (World.block_lt_of_cell? _ _ z1) (fun h => h) _).trans z1, (k9.cell (World.block_lt_of_cell? _ _ z2) (fun h => h) _).trans z2, (k9.cell (World.block_lt_of_cell? _ _ z3) (fun h => h) _).trans z3⟩)
    clear q4 q1 b2 b3 b4
    refine Cd.wp_region_z (fun w9 : World => w9.cell? ⟨q, 1, none⟩ = some (.int .i64 n1) ∧ w9.cell? ⟨bs, 2, none⟩ = some (.int .i64 place) ∧ w9.cell? ⟨bs, 3, none⟩ = some (.int .i64 room) ∧ w9.cell? ⟨bs, 4, none⟩ = some (.string who)) [13] (by kernel_rfl) ?_
    have KD : Hid (Keep (fun _ => False) wb wb.drew) := Lib.hid (Keep.refl _ wb).drew
    have HSZ : Hid (wb.drew.heap.size = bs + 1) := Lib.hid hsz
    generalize wb.drew = wd at *
    refine Cd.wpAnyZ_takeD (i := 0) (d := 25) (v := ?_) rfl rfl (by kernel_rfl) (by kernel_rfl) (by kernel_rfl) (fun _ _ _ h => h) (by rfl) ?_ ?_
    rotate_left 1
    · (intro w9; go_simp <;> with_reducible rfl)
    simp only [Act.put, List.setIfInBounds_toArray, List.set_cons_succ, List.set_cons_zero]
    refine Cd.wpAnyZ_takeD (i := 1) (d := 26) (v := ?_) rfl rfl (by kernel_rfl) (by kernel_rfl) (by kernel_rfl) (fun _ _ _ h => h) (by rfl) ?_ ?_
    rotate_left 1
    · (intro w9; go_simp <;> with_reducible rfl)
    simp only [Act.put, List.setIfInBounds_toArray, List.set_cons_succ, List.set_cons_zero]
    refine Cd.wpAnyZ_takeD (i := 2) (d := 27) (v := ?_) rfl rfl (by kernel_rfl) (by kernel_rfl) (by kernel_rfl) (fun _ _ _ h => h) (by rfl) ?_ ?_
    rotate_left 1
    · (intro w9; go_simp <;> with_reducible rfl)
    simp only [Act.put, List.setIfInBounds_toArray, List.set_cons_succ, List.set_cons_zero]
    refine Cd.wpAnyZ_loadD (i := 3) (d := 28) (v := ?_) rfl rfl (by kernel_rfl) (by kernel_rfl) (by kernel_rfl) (by kernel_rfl) (fun _ _ _ h => h) HS3.out (by rfl) ?_ ?_
    rotate_left 1
    · (intro w9 hS9; obtain ⟨z0, z1, z2, z3⟩ := hS9; go_simp <;> with_reducible rfl)
    simp only [Act.put, List.setIfInBounds_toArray, List.set_cons_succ, List.set_cons_zero]
    refine Cd.wpAnyZ_takeD (i := 4) (d := 29) (v := ?_) rfl rfl (by kernel_rfl) (by kernel_rfl) (by kernel_rfl) (fun _ _ _ h => h) (by rfl) ?_ ?_
    rotate_left 1
    · (intro w9; go_simp <;> with_reducible rfl)
    simp only [Act.put, List.setIfInBounds_toArray, List.set_cons_succ, List.set_cons_zero]
    refine Cd.wpAnyZ_takeD (i := 5) (d := 30) (v := ?_) rfl rfl (by kernel_rfl) (by kernel_rfl) (by kernel_rfl) (fun _ _ _ h => h) (by rfl) ?_ ?_
    rotate_left 1
    · (intro w9; go_simp <;> with_reducible rfl)
    simp only [Act.put, List.setIfInBounds_toArray, List.set_cons_succ, List.set_cons_zero]
    refine Cd.wpAnyZ_loadD (i := 6) (d := 31) (v := ?_) rfl rfl (by kernel_rfl) (by kernel_rfl) (by kernel_rfl) (by kernel_rfl) (fun _ _ _ h => h) HS3.out (by rfl) ?_ ?_
    rotate_left 1
    · (intro w9 hS9; obtain ⟨z0, z1, z2, z3⟩ := hS9; go_simp <;> with_reducible rfl)
    simp only [Act.put, List.setIfInBounds_toArray, List.set_cons_succ, List.set_cons_zero]
    refine Cd.wpAnyZ_takeD (i := 7) (d := 32) (v := ?_) rfl rfl (by kernel_rfl) (by kernel_rfl) (by kernel_rfl) (fun _ _ _ h => h) (by rfl) ?_ ?_
    rotate_left 1
    · (intro w9; go_simp <;> with_reducible rfl)
    simp only [Act.put, List.setIfInBounds_toArray, List.set_cons_succ, List.set_cons_zero]
    refine Cd.wpAnyZ_loadD (i := 8) (d := 33) (v := ?_) rfl rfl (by kernel_rfl) (by kernel_rfl) (by kernel_rfl) (by kernel_rfl) (fun _ _ _ h => h) HS3.out (by rfl) ?_ ?_
    rotate_left 1
    · (intro w9 hS9; obtain ⟨z0, z1, z2, z3⟩ := hS9; go_simp <;> with_reducible rfl)
    simp only [Act.put, List.setIfInBounds_toArray, List.set_cons_succ, List.set_cons_zero]
    refine Cd.wpAnyZ_takeD (i := 9) (d := 34) (v := ?_) rfl rfl (by kernel_rfl) (by kernel_rfl) (by kernel_rfl) (fun _ _ _ h => h) (by rfl) ?_ ?_
    rotate_left 1
    · (intro w9; go_simp <;> with_reducible rfl)
    simp only [Act.put, List.setIfInBounds_toArray, List.set_cons_succ, List.set_cons_zero]
    refine Cd.wpAnyZ_loadD (i := 10) (d := 35) (v := ?_) rfl rfl (by kernel_rfl) (by kernel_rfl) (by kernel_rfl) (by kernel_rfl) (fun _ _ _ h => h) HS3.out (by rfl) ?_ ?_
    rotate_left 1
    · (intro w9 hS9; obtain ⟨z0, z1, z2, z3⟩ := hS9; go_simp <;> with_reducible rfl)
    simp only [Act.put, List.setIfInBounds_toArray, List.set_cons_succ, List.set_cons_zero]
    refine Cd.wpAnyZ_takeD (i := 11) (d := 36) (v := ?_) rfl rfl (by kernel_rfl) (by kernel_rfl) (by kernel_rfl) (fun _ _ _ h => h) (by rfl) ?_ ?_
    rotate_left 1
    · (intro w9; go_simp <;> with_reducible rfl)
    simp only [Act.put, List.setIfInBounds_toArray, List.set_cons_succ, List.set_cons_zero]
    refine Cd.wpAnyZ_one (i := 12) rfl (by kernel_rfl) (by rfl) ?_
    intro K9 hK9
    go_simp
    have HSA : Hid ((fun w9 : World => w9.cell? ⟨q, 1, none⟩ = some (.int .i64 n1) ∧ w9.cell? ⟨bs, 2, none⟩ = some (.int .i64 place) ∧ w9.cell? ⟨bs, 3, none⟩ = some (.int .i64 room) ∧ w9.cell? ⟨bs, 4, none⟩ = some (.string who)) (wd.alloc (.cells #[.int .i64 0, .int .i64 0, .int .i64 0, .int .i64 0, .string ⟨#[]⟩] 29))) := Lib.hid (HG3.out _ ((Keep.refl _ wd).alloc _))
    refine hK9.out _ _ (fun _ _ => HSA.out) ?_
    clear hK9 K9
    refine Cd.wpAnyZ_one (i := 13) rfl (by kernel_rfl) (by rfl) ?_
    intro K9 hK9
    go_simp
    refine hK9.out _ _ (fun _ _ => (HG3.out _ ((Keep.refl _ wd).alloc _))) ?_
    clear hK9 K9
    refine Cd.wpAnyZ_done (by kernel_rfl) ?_ _
    obtain ⟨X1, hX1⟩ : ∃ X1, X1 = wd.alloc (.cells #[.int .i64 n1, .int .i64 proto, .int .i64 place, .int .i64 room, .string who] 29) := ⟨_, rfl⟩
    have HBM : Hid (X1.heap[wd.heap.size]? = some (.cells #[.int .i64 n1, .int .i64 proto, .int .i64 place, .int .i64 room, .string who] 29 (0, 0))) := Lib.hid (by rw [hX1]; exact heap_alloc_new wd _)
    have KX : Hid (Keep (fun _ => False) wb X1) := Lib.hid (by rw [hX1]; exact KD.out.alloc _)
    rw [← hX1]
    clear hX1 HS3 HG3 HSA
    generalize hbm : wd.heap.size = bm at *
    have HD := Lib.hid ((H1.out.keep KX.out (fun _ _ e => e)).keep (Keep.refl (fun _ => False) X1).drew (fun _ _ e => e))
    go_upto_region 4 with (fail)
    have q4 : X1.drew.cell? ⟨q, 4, none⟩ = some (.slice a4 W.things.length d4) := (cell_of_row X1.drew q 4 _ _ _ HD.out.blk).trans rfl
    have m0 : X1.drew.cell? ⟨bm, 0, none⟩ = some (.int .i64 n1) := (cell_of_row X1 bm 0 _ _ _ HBM.out).trans rfl
    have m1 : X1.drew.cell? ⟨bm, 1, none⟩ = some (.int .i64 proto) := (cell_of_row X1 bm 1 _ _ _ HBM.out).trans rfl
    have m2 : X1.drew.cell? ⟨bm, 2, none⟩ = some (.int .i64 place) := (cell_of_row X1 bm 2 _ _ _ HBM.out).trans rfl
    have m3 : X1.drew.cell? ⟨bm, 3, none⟩ = some (.int .i64 room) := (cell_of_row X1 bm 3 _ _ _ HBM.out).trans rfl
    have m4 : X1.drew.cell? ⟨bm, 4, none⟩ = some (.string who) := (cell_of_row X1 bm 4 _ _ _ HBM.out).trans rfl
    have HNB : Hid (¬ (Value.slice a4 W.things.length d4).ownBlock = some bm) := Lib.hid (fun e => by have := HOB.out _ e; have := HSZ.out; omega)
    have HS4 : Hid ((fun w9 : World => w9.cell? ⟨q, 4, none⟩ = some (.slice a4 W.things.length d4) ∧ w9.cell? ⟨bm, 0, none⟩ = some (.int .i64 n1) ∧ w9.cell? ⟨bm, 1, none⟩ = some (.int .i64 proto) ∧ w9.cell? ⟨bm, 2, none⟩ = some (.int .i64 place) ∧ w9.cell? ⟨bm, 3, none⟩ = some (.int .i64 room) ∧ w9.cell? ⟨bm, 4, none⟩ = some (.string who)) X1.drew) := Lib.hid ⟨q4, m0, m1, m2, m3, m4⟩
    have HG4 : Hid (∀ w9 : World, Keep (fun _ => False) X1.drew w9 → (fun w9 : World => w9.cell? ⟨q, 4, none⟩ = some (.slice a4 W.things.length d4) ∧ w9.cell? ⟨bm, 0, none⟩ = some (.int .i64 n1) ∧ w9.cell? ⟨bm, 1, none⟩ = some (.int .i64 proto) ∧ w9.cell? ⟨bm, 2, none⟩ = some (.int .i64 place) ∧ w9.cell? ⟨bm, 3, none⟩ = some (.int .i64 room) ∧ w9.cell? ⟨bm, 4, none⟩ = some (.string who)) w9) := Lib.hid (fun w9 k9 => by
      have hS9 := HS4.out
      obtain ⟨z0, z1, z2, z3, z4, z5⟩ := hS9
      exact ⟨(k9.cell (World.block_lt_of_cell? _ _ z0) (fun h => h) _).trans z0, (k9.cell (World.block_lt_of_cell? _ _ z1) (fun h => h) _).trans z1, (k9.cell (World.block_lt_of_cell? _ _ z2) (fun h => h) _).trans z2, (k9.cell (World.block_lt_of_cell? _ _ z3) (fun h => h) _).trans z3, (k9.cell (World.block_lt_of_cell? _ _ z4) (fun h => h) _).trans z4, (k9.cell (World.block_lt_of_cell? _ _ z5) (fun h => h) _).trans z5⟩)
    clear q4 m0 m1 m2 m3 m4
    have KX2 : Hid (Keep (fun _ => False) wb X1.drew) := Lib.hid KX.out.drew
    clear KX KD HBM
    refine Cd.wp_region_z (fun w9 : World => w9.cell? ⟨q, 4, none⟩ = some (.slice a4 W.things.length d4) ∧ w9.cell? ⟨bm, 0, none⟩ = some (.int .i64 n1) ∧ w9.cell? ⟨bm, 1, none⟩ = some (.int .i64 proto) ∧ w9.cell? ⟨bm, 2, none⟩ = some (.int .i64 place) ∧ w9.cell? ⟨bm, 3, none⟩ = some (.int .i64 room) ∧ w9.cell? ⟨bm, 4, none⟩ = some (.string who)) [11] (by kernel_rfl) ?_
    generalize X1.drew = wd2 at *
    clear HSZ hsz
    generalize wd = wold at *
    generalize wd2 = wd at *
    refine Cd.wpAnyZ_takeD (i := 0) (d := 37) (v := ?_) rfl rfl (by kernel_rfl) (by kernel_rfl) (by kernel_rfl) (fun _ _ _ h => h) (by rfl) ?_ ?_
    rotate_left 1
    · (intro w9; go_simp <;> with_reducible rfl)
    simp only [Act.put, List.setIfInBounds_toArray, List.set_cons_succ, List.set_cons_zero]
    refine Cd.wpAnyZ_takeD (i := 1) (d := 38) (v := ?_) rfl rfl (by kernel_rfl) (by kernel_rfl) (by kernel_rfl) (fun _ _ _ h => h) (by rfl) ?_ ?_
    rotate_left 1
    · (intro w9; go_simp <;> with_reducible rfl)
    simp only [Act.put, List.setIfInBounds_toArray, List.set_cons_succ, List.set_cons_zero]
    refine Cd.wpAnyZ_takeD (i := 2) (d := 39) (v := ?_) rfl rfl (by kernel_rfl) (by kernel_rfl) (by kernel_rfl) (fun _ _ _ h => h) (by rfl) ?_ ?_
    rotate_left 1
    · (intro w9; go_simp <;> with_reducible rfl)
    simp only [Act.put, List.setIfInBounds_toArray, List.set_cons_succ, List.set_cons_zero]
    refine Cd.wpAnyZ_takeD (i := 3) (d := 40) (v := ?_) rfl rfl (by kernel_rfl) (by kernel_rfl) (by kernel_rfl) (fun _ _ _ h => h) (by rfl) ?_ ?_
    rotate_left 1
    · (intro w9; go_simp <;> with_reducible rfl)
    simp only [Act.put, List.setIfInBounds_toArray, List.set_cons_succ, List.set_cons_zero]
    refine Cd.wpAnyZ_loadD (i := 4) (d := 41) (v := ?_) rfl rfl (by kernel_rfl) (by kernel_rfl) (by kernel_rfl) (by kernel_rfl) (fun _ _ _ h => h) HS4.out (by rfl) ?_ ?_
    rotate_left 1
    · (intro w9 hS9; obtain ⟨z0, z1, z2, z3, z4, z5⟩ := hS9; go_simp <;> with_reducible rfl)
    simp only [Act.put, List.setIfInBounds_toArray, List.set_cons_succ, List.set_cons_zero]
    refine Cd.wpAnyZ_loadD (i := 6) (d := 43) (v := ?_) rfl rfl (by kernel_rfl) (by kernel_rfl) (by kernel_rfl) (by kernel_rfl) (fun _ _ _ h => h) HS4.out (by rfl) ?_ ?_
    rotate_left 1
    · (intro w9 hS9; obtain ⟨z0, z1, z2, z3, z4, z5⟩ := hS9; go_simp <;> with_reducible rfl)
    simp only [Act.put, List.setIfInBounds_toArray, List.set_cons_succ, List.set_cons_zero]
    refine wpAnyZ_two (i := 5) (j := 7) rfl rfl (by kernel_rfl) (by rfl) (by rfl) ?_ ?_
    · intro K9 hK9
      go_simp
      go_at_call 39
      (with_reducible refine (clipT_any hd4 hm4).mono ?_)
      rintro e w' ⟨rfl, rfl⟩
      refine hK9.out _ _ (fun _ _ => (by first | exact HSA.out | exact HS4.out)) ?_
      clear hK9 K9
      refine Cd.wpAnyZ_one (i := 7) rfl (by kernel_rfl) (by rfl) ?_
      intro K9 hK9
      go_simp
      have ha9 : Keep (fun _ => False) wd (wd.alloc (.cells #[.int .i64 n1, .int .i64 proto, .int .i64 place, .int .i64 room, .string who] 29)) := (Keep.refl _ wd).alloc _
      have HSA : Hid ((fun w9 : World => w9.cell? ⟨q, 4, none⟩ = some (.slice a4 W.things.length d4) ∧ w9.cell? ⟨bm, 0, none⟩ = some (.int .i64 n1) ∧ w9.cell? ⟨bm, 1, none⟩ = some (.int .i64 proto) ∧ w9.cell? ⟨bm, 2, none⟩ = some (.int .i64 place) ∧ w9.cell? ⟨bm, 3, none⟩ = some (.int .i64 room) ∧ w9.cell? ⟨bm, 4, none⟩ = some (.string who)) (wd.alloc (.cells #[.int .i64 n1, .int .i64 proto, .int .i64 place, .int .i64 room, .string who] 29))) := Lib.hid (HG4.out _ ha9)
      have HX := Lib.hid (HD.out.keep ha9 (fun _ _ e => e))
      have HRX : Hid (Row (wd.alloc (.cells #[.int .i64 n1, .int .i64 proto, .int .i64 place, .int .i64 room, .string who] 29)) 29 5 (.slice (some ⟨wd.heap.size, 0, none⟩) 1 1) 1 (thC ⟨n1, proto, place, room, who⟩)) := Lib.hid (Row.made (w := wd) (thC ⟨n1, proto, place, room, who⟩).toArray wd.heap.size 1 rfl (by simp [maxLen]) (by simp [thC]))
      have HA9 := Lib.hid ha9
      clear ha9
      refine hK9.out _ _ (fun _ _ => HSA.out) ?_
      clear hK9 K9
      refine Cd.wpAnyZ_one (i := 8) rfl (by kernel_rfl) (by rfl) ?_
      intro K9 hK9
      --raw
      refine oper_append_row (.tmp 42) (.tmp 44) rfl Tryz.underlying46 hi0 hz0 hz1 hz2 hz3 rfl (Row.clip HX.out.things.row) rfl (HRX.out.src Tryz.underlying46 (by simp [thC, Value.oneCell'])) (by unfold maxLen; omega) (by omega) ?_
      intro v9 w9 r1 r2 r3 _
      obtain ⟨a9, c9, rfl, _, _⟩ := r1.slice
      have r2 := r2.mono (fun b _ e => (own_cap a4 W.things.length W.things.length d4 b).1 e)
      have r3 := fun b hb => (r3 b hb).imp (fun e => (own_cap a4 W.things.length W.things.length d4 b).1 e) id
      have nw := HX.out.newThings (L := W.things ++ [⟨n1, proto, place, room, who⟩]) (by rw [List.length_append, flat_append, flat_one]; exact r1) r2 r3
      have hvN : ∀ b, (Value.slice a4 W.things.length d4).ownBlock = some b → N b := fun b e => HX.out.nv _ (by simp) b e
      have hvq : ¬ (Value.slice a4 W.things.length d4).ownBlock = some q := fun e => by
        obtain ⟨_, _, h2⟩ := Row.typed HX.out.things.row e
        exact typed_ne h2 HX.out.blk (by decide) rfl
      have hvb : ¬ (Value.slice a4 W.things.length d4).ownBlock = some bm := fun e => HNB.out e
      have HSB : Hid ((fun w9 : World => w9.cell? ⟨q, 4, none⟩ = some (.slice a4 W.things.length d4) ∧ w9.cell? ⟨bm, 0, none⟩ = some (.int .i64 n1) ∧ w9.cell? ⟨bm, 1, none⟩ = some (.int .i64 proto) ∧ w9.cell? ⟨bm, 2, none⟩ = some (.int .i64 place) ∧ w9.cell? ⟨bm, 3, none⟩ = some (.int .i64 room) ∧ w9.cell? ⟨bm, 4, none⟩ = some (.string who)) w9) := Lib.hid (by
        have hS9 := HSA.out
        obtain ⟨z0, z1, z2, z3, z4, z5⟩ := hS9
        exact ⟨(r2.cell (World.block_lt_of_cell? _ _ z0) hvq _).trans z0, (r2.cell (World.block_lt_of_cell? _ _ z1) hvb _).trans z1, (r2.cell (World.block_lt_of_cell? _ _ z2) hvb _).trans z2, (r2.cell (World.block_lt_of_cell? _ _ z3) hvb _).trans z3, (r2.cell (World.block_lt_of_cell? _ _ z4) hvb _).trans z4, (r2.cell (World.block_lt_of_cell? _ _ z5) hvb _).trans z5⟩)
      have f9 := nw.2.2.2
      have hq9 := HSB.out.1
      have NW := Lib.hid nw
      have R2 := Lib.hid r2
      clear r1 r2 r3 nw hvq hvb hvN
      refine hK9.out _ _ (fun _ _ => HSB.out) ?_
      clear hK9 K9
      refine Cd.wpAnyZ_takeD (i := 9) (d := 46) (v := ?_) rfl rfl (by kernel_rfl) (by kernel_rfl) (by kernel_rfl) (fun _ _ _ h => h) (by rfl) ?_ ?_
      rotate_left 1
      · (intro w9; go_simp <;> with_reducible rfl)
      simp only [Act.put, List.setIfInBounds_toArray, List.set_cons_succ, List.set_cons_zero]
      refine Cd.wpAnyZ_takeD (i := 10) (d := 47) (v := ?_) rfl rfl (by kernel_rfl) (by kernel_rfl) (by kernel_rfl) (fun _ _ _ h => h) (by rfl) ?_ ?_
      rotate_left 1
      · (intro w9; go_simp <;> with_reducible rfl)
      simp only [Act.put, List.setIfInBounds_toArray, List.set_cons_succ, List.set_cons_zero]
      refine Cd.wpAnyZ_one (i := 11) rfl (by kernel_rfl) (by rfl) ?_
      intro K9 hK9
      go_simp
      refine hK9.out _ _ (fun _ _ => (by rename_i h9 h10; exact absurd (by simp) h9)) ?_
      clear hK9 K9
      refine Cd.wpAnyZ_done (by kernel_rfl) ?_ _
      obtain ⟨n1w, n2w, n3w, n4w⟩ := NW.out
      have hext := ((Ext.of_keep0 (M := N) (KB.out.trans KX2.out (fun _ e => e.elim))).trans (Ext.of_keep0 (M := N) HA9.out)).trans n2w
      obtain ⟨wc, hwc⟩ : ∃ wc, wc = w9.setCell ⟨q, 4, none⟩ (.slice a9 (W.things.length + 1) c9) := ⟨_, rfl⟩
      rw [← hwc] at n1w n3w hext ⊢
      obtain ⟨nx, hnx⟩ : ∃ nx, nx = wrap64 (n1 + 1) := ⟨_, rfl⟩
      have hwr : IntKind.i64.wrap (n1 + 1) = nx := by rw [hnx]; simp only [IntKind.wrap, IntKind.signed, IntKind.bits, wrap64]; simp; split <;> omega
      have o1 : wc.cell? ⟨q, 1, none⟩ = some (.int .i64 n1) := (cell_of_row wc q 1 _ _ _ n1w.blk).trans (by rw [HN1.out]; rfl)
      have z2 : wc.frozen? ⟨q, 1, none⟩ = false := by simp [World.frozen?, n1w.blk]
      have t2 := n1w.setOwn (j := 1) (a := W.now) (b := nx) (c := W.minted) (u := .int .i64 nx) (by omega) rfl
      have TZ := Lib.hid t2
      have HXT := Lib.hid hext
      have HN3 := Lib.hid n3w
      have HNX := Lib.hid hnx
      have HQN := Lib.hid n1w.nq
      clear t2 hext n3w n1w n2w n4w NW f9 hq9 HSA HSB HX HRX HD hwc HS4 HG4 HA9 R2 hnx
      go_wp2
      go_ret
      have HWF : WAt (fun b => N b ∨ (Value.slice a9 (W.things.length + 1) c9).ownBlock = some b) (wc.setCell ⟨q, 1, none⟩ (.int .i64 nx)) q (madeW W proto place room who) := by
        unfold madeW
        rw [← HN1.out, ← HNX.out]
        exact ⟨_, _, _, _, _, _, _, _, TZ.out⟩
      refine ⟨rfl, ⟨_, HWF, HXT.out.trans ⟨Keep.setCell (Keep.refl _ _) _ _ (.inl HQN.out), fun b hb => .inl hb⟩, fun b hb => ?_⟩⟩
      · rcases hb with h1 | h1
        · exact .inl h1
        · exact .inr (by simpa using HN3.out b h1)
    · intro K9 hK9
      go_simp
      have ha9 : Keep (fun _ => False) wd (wd.alloc (.cells #[.int .i64 n1, .int .i64 proto, .int .i64 place, .int .i64 room, .string who] 29)) := (Keep.refl _ wd).alloc _
      have HSA : Hid ((fun w9 : World => w9.cell? ⟨q, 4, none⟩ = some (.slice a4 W.things.length d4) ∧ w9.cell? ⟨bm, 0, none⟩ = some (.int .i64 n1) ∧ w9.cell? ⟨bm, 1, none⟩ = some (.int .i64 proto) ∧ w9.cell? ⟨bm, 2, none⟩ = some (.int .i64 place) ∧ w9.cell? ⟨bm, 3, none⟩ = some (.int .i64 room) ∧ w9.cell? ⟨bm, 4, none⟩ = some (.string who)) (wd.alloc (.cells #[.int .i64 n1, .int .i64 proto, .int .i64 place, .int .i64 room, .string who] 29))) := Lib.hid (HG4.out _ ha9)
      have HX := Lib.hid (HD.out.keep ha9 (fun _ _ e => e))
      have HRX : Hid (Row (wd.alloc (.cells #[.int .i64 n1, .int .i64 proto, .int .i64 place, .int .i64 room, .string who] 29)) 29 5 (.slice (some ⟨wd.heap.size, 0, none⟩) 1 1) 1 (thC ⟨n1, proto, place, room, who⟩)) := Lib.hid (Row.made (w := wd) (thC ⟨n1, proto, place, room, who⟩).toArray wd.heap.size 1 rfl (by simp [maxLen]) (by simp [thC]))
      have HA9 := Lib.hid ha9
      clear ha9
      refine hK9.out _ _ (fun _ _ => HSA.out) ?_
      clear hK9 K9
      refine Cd.wpAnyZ_one (i := 5) rfl (by kernel_rfl) (by rfl) ?_
      intro K9 hK9
      go_simp
      go_at_call 39
      (with_reducible refine (clipT_any hd4 hm4).mono ?_)
      rintro e w' ⟨rfl, rfl⟩
      refine hK9.out _ _ (fun _ _ => (by first | exact HSA.out | exact HS4.out)) ?_
      clear hK9 K9
      refine Cd.wpAnyZ_one (i := 8) rfl (by kernel_rfl) (by rfl) ?_
      intro K9 hK9
      --raw
      refine oper_append_row (.tmp 42) (.tmp 44) rfl Tryz.underlying46 hi0 hz0 hz1 hz2 hz3 rfl (Row.clip HX.out.things.row) rfl (HRX.out.src Tryz.underlying46 (by simp [thC, Value.oneCell'])) (by unfold maxLen; omega) (by omega) ?_
      intro v9 w9 r1 r2 r3 _
      obtain ⟨a9, c9, rfl, _, _⟩ := r1.slice
      have r2 := r2.mono (fun b _ e => (own_cap a4 W.things.length W.things.length d4 b).1 e)
      have r3 := fun b hb => (r3 b hb).imp (fun e => (own_cap a4 W.things.length W.things.length d4 b).1 e) id
      have nw := HX.out.newThings (L := W.things ++ [⟨n1, proto, place, room, who⟩]) (by rw [List.length_append, flat_append, flat_one]; exact r1) r2 r3
      have hvN : ∀ b, (Value.slice a4 W.things.length d4).ownBlock = some b → N b := fun b e => HX.out.nv _ (by simp) b e
      have hvq : ¬ (Value.slice a4 W.things.length d4).ownBlock = some q := fun e => by
        obtain ⟨_, _, h2⟩ := Row.typed HX.out.things.row e
        exact typed_ne h2 HX.out.blk (by decide) rfl
      have hvb : ¬ (Value.slice a4 W.things.length d4).ownBlock = some bm := fun e => HNB.out e
      have HSB : Hid ((fun w9 : World => w9.cell? ⟨q, 4, none⟩ = some (.slice a4 W.things.length d4) ∧ w9.cell? ⟨bm, 0, none⟩ = some (.int .i64 n1) ∧ w9.cell? ⟨bm, 1, none⟩ = some (.int .i64 proto) ∧ w9.cell? ⟨bm, 2, none⟩ = some (.int .i64 place) ∧ w9.cell? ⟨bm, 3, none⟩ = some (.int .i64 room) ∧ w9.cell? ⟨bm, 4, none⟩ = some (.string who)) w9) := Lib.hid (by
        have hS9 := HSA.out
        obtain ⟨z0, z1, z2, z3, z4, z5⟩ := hS9
        exact ⟨(r2.cell (World.block_lt_of_cell? _ _ z0) hvq _).trans z0, (r2.cell (World.block_lt_of_cell? _ _ z1) hvb _).trans z1, (r2.cell (World.block_lt_of_cell? _ _ z2) hvb _).trans z2, (r2.cell (World.block_lt_of_cell? _ _ z3) hvb _).trans z3, (r2.cell (World.block_lt_of_cell? _ _ z4) hvb _).trans z4, (r2.cell (World.block_lt_of_cell? _ _ z5) hvb _).trans z5⟩)
      have f9 := nw.2.2.2
      have hq9 := HSB.out.1
      have NW := Lib.hid nw
      have R2 := Lib.hid r2
      clear r1 r2 r3 nw hvq hvb hvN
      refine hK9.out _ _ (fun _ _ => HSB.out) ?_
      clear hK9 K9
      refine Cd.wpAnyZ_takeD (i := 9) (d := 46) (v := ?_) rfl rfl (by kernel_rfl) (by kernel_rfl) (by kernel_rfl) (fun _ _ _ h => h) (by rfl) ?_ ?_
      rotate_left 1
      · (intro w9; go_simp <;> with_reducible rfl)
      simp only [Act.put, List.setIfInBounds_toArray, List.set_cons_succ, List.set_cons_zero]
      refine Cd.wpAnyZ_takeD (i := 10) (d := 47) (v := ?_) rfl rfl (by kernel_rfl) (by kernel_rfl) (by kernel_rfl) (fun _ _ _ h => h) (by rfl) ?_ ?_
      rotate_left 1
      · (intro w9; go_simp <;> with_reducible rfl)
      simp only [Act.put, List.setIfInBounds_toArray, List.set_cons_succ, List.set_cons_zero]
      refine Cd.wpAnyZ_one (i := 11) rfl (by kernel_rfl) (by rfl) ?_
      intro K9 hK9
      go_simp
      refine hK9.out _ _ (fun _ _ => (by rename_i h9 h10; exact absurd (by simp) h9)) ?_
      clear hK9 K9
      refine Cd.wpAnyZ_done (by kernel_rfl) ?_ _
      obtain ⟨n1w, n2w, n3w, n4w⟩ := NW.out
      have hext := ((Ext.of_keep0 (M := N) (KB.out.trans KX2.out (fun _ e => e.elim))).trans (Ext.of_keep0 (M := N) HA9.out)).trans n2w
      obtain ⟨wc, hwc⟩ : ∃ wc, wc = w9.setCell ⟨q, 4, none⟩ (.slice a9 (W.things.length + 1) c9) := ⟨_, rfl⟩
      rw [← hwc] at n1w n3w hext ⊢
      obtain ⟨nx, hnx⟩ : ∃ nx, nx = wrap64 (n1 + 1) := ⟨_, rfl⟩
      have hwr : IntKind.i64.wrap (n1 + 1) = nx := by rw [hnx]; simp only [IntKind.wrap, IntKind.signed, IntKind.bits, wrap64]; simp; split <;> omega
      have o1 : wc.cell? ⟨q, 1, none⟩ = some (.int .i64 n1) := (cell_of_row wc q 1 _ _ _ n1w.blk).trans (by rw [HN1.out]; rfl)
      have z2 : wc.frozen? ⟨q, 1, none⟩ = false := by simp [World.frozen?, n1w.blk]
      have t2 := n1w.setOwn (j := 1) (a := W.now) (b := nx) (c := W.minted) (u := .int .i64 nx) (by omega) rfl
      have TZ := Lib.hid t2
      have HXT := Lib.hid hext
      have HN3 := Lib.hid n3w
      have HNX := Lib.hid hnx
      have HQN := Lib.hid n1w.nq
      clear t2 hext n3w n1w n2w n4w NW f9 hq9 HSA HSB HX HRX HD hwc HS4 HG4 HA9 R2 hnx
      go_wp2
      go_ret
      have HWF : WAt (fun b => N b ∨ (Value.slice a9 (W.things.length + 1) c9).ownBlock = some b) (wc.setCell ⟨q, 1, none⟩ (.int .i64 nx)) q (madeW W proto place room who) := by
        unfold madeW
        rw [← HN1.out, ← HNX.out]
        exact ⟨_, _, _, _, _, _, _, _, TZ.out⟩
      refine ⟨rfl, ⟨_, HWF, HXT.out.trans ⟨Keep.setCell (Keep.refl _ _) _ _ (.inl HQN.out), fun b hb => .inl hb⟩, fun b hb => ?_⟩⟩
      · rcases hb with h1 | h1
        · exact .inl h1
        · exact .inr (by simpa using HN3.out b h1)
  · have d1 : decide (200 ≤ (W.things.length : Int)) = true := by rw [decide_eq_true_eq]; omega
    have d2 : decide (200 ≤ W.things.length) = true := by rw [decide_eq_true_eq]; omega
    rw [if_neg hlt, decide_eq_false hlt]
    go_enter Tryz.func10, Tryz.ntmps10
    go_wp2
    rw [HWB.out.symm]
    go_ret
    exact ⟨rfl, ⟨N, ⟨_, _, _, _, _, _, _, _, H1.out⟩, Ext.of_keep0 KB.out, fun b hb => .inl hb⟩⟩
end Go.Proofs.YtheaghgockafmaaGreat.Wd
