/- The numbers of a new world rise, and are within (made by tools/geneh.py). -/
import Derived.Test.YtheaghgockafmaaGreatEbD
import Derived.Deep.CutRange
import Derived.Deep.CutBlock
namespace Go.Proofs.YtheaghgockafmaaGreat.Wd
open Go.RowKit Go.Maps Go.Proofs.YtheaghgockafmaaGreat Go.Proofs.YtheaghgockafmaaGreat.Lin
set_option maxRecDepth 100000

theorem idsL_mobs (M : List MobPM) : idsL (mobsL M) = (List.range M.length).map (fun i : Nat => (i : Int) + 1) := by
  apply List.ext_getElem
  · simp [idsL, mobsL]
  · intro i h1 h2
    simp [idsL, mobsL]
theorem idsL_rise (M : List MobPM) : (idsL (mobsL M)).Pairwise (fun a b => a < b) := by
  rw [idsL_mobs, List.pairwise_map]
  exact List.pairwise_lt_range.imp (fun h => by omega)
theorem idsL_in (M : List MobPM) : (idsL (mobsL M)).all (fun x => decide (0 < x) && decide (x < (M.length : Int) + 1)) = true := by
  rw [idsL_mobs, List.all_eq_true]
  intro x hx
  simp only [List.mem_map, List.mem_range] at hx
  obtain ⟨i, hi, rfl⟩ := hx
  simp only [Bool.and_eq_true, decide_eq_true_eq]
  omega

theorem numC_any {w : World} {b q : Nat} {n : Int} (h : w.cell? ⟨b, 0, none⟩ = some (.pointer (some ⟨q, 0, none⟩))) (hq : w.cell? ⟨q, 1, none⟩ = some (.int .i64 n)) (x : Int) :
    Calls Tryz.prog 127 #[.int .i64 x, .pointer (some ⟨b, 0, none⟩)] w fun e w' => e = .returned (.bool (decide (0 < x) && decide (x < n))) ∧ Keep (fun _ => False) w w' := by
  by_cases h0 : 0 < x
  · have e0 : decide (0 < x) = true := by simpa using h0
    rw [e0]
    go_enter Tryz.func127, Tryz.ntmps127
    go_wp2
    go_ret
    exact ⟨by simp, Keep.refl _ _⟩
  · have e0 : decide (0 < x) = false := by simpa using h0
    rw [e0]
    go_enter Tryz.func127, Tryz.ntmps127
    go_wp2
    go_ret
    exact ⟨by simp, Keep.refl _ _⟩
theorem Tryz.en_numC : ∀ args w, (callFunc 127 args).run Tryz.prog w = .ok (.enter 127 args) w := enters_of Tryz.func127 (by kernel_rfl) rfl

set_option maxHeartbeats 16000000 in
theorem hasNumbers_any {N : Nat → Prop} {w : World} {q : Nat} {W : WM} {M : List MobPM} (h : WAt N w q W) (ht : W.things = []) (hlt : W.lots = []) (hm : W.mobs = mobsL M) (hn : W.next = (M.length : Int) + 1) (hl60 : M.length ≤ 60) :
    Calls Tryz.prog 59 #[.pointer (some ⟨q, 0, none⟩)] w fun e w' => e = .returned (.bool true) ∧ Keep (fun _ => False) w w' := by
  obtain ⟨a4, c4, q4, -⟩ := h.things
  obtain ⟨a7, c7, q7, -⟩ := h.lots
  obtain ⟨a5, c5, q5, r5, -, -⟩ := h.mobs
  have q1 : w.cell? ⟨q, 1, none⟩ = some (.int .i64 ((M.length : Int) + 1)) := by
    obtain ⟨v1, v2, v3, v4, v5, v6, cr, hr, hw⟩ := h
    rw [← hn]
    exact (cell_of_row w q 1 _ _ _ hw.blk).trans rfl
  rw [ht] at q4; rw [hlt] at q7
  obtain ⟨L, hL⟩ : ∃ L, L = W.mobs := ⟨_, rfl⟩
  rw [← hL] at q5 r5 hm
  have hl : L.length ≤ 1000 := by rw [hm, mobsL_len]; omega
  obtain ⟨w0, hw0⟩ : ∃ w0, w0 = w.alloc (.cells #[.pointer (some ⟨q, 0, none⟩)] 24) := ⟨_, rfl⟩
  have KW : Hid (Keep (fun _ => False) w w0) := Lib.hid (by rw [hw0]; exact (Keep.refl _ w).alloc _)
  have HB0 : Hid (w0.cell? ⟨w.heap.size, 0, none⟩ = some (.pointer (some ⟨q, 0, none⟩))) := Lib.hid (by rw [hw0, cell_of_row _ _ _ _ _ _ (heap_alloc_new w _)]; rfl)
  have HQ : Hid (w0.cell? ⟨q, 4, none⟩ = some (.slice a4 0 c4) ∧ w0.cell? ⟨q, 5, none⟩ = some (.slice a5 L.length c5) ∧ w0.cell? ⟨q, 7, none⟩ = some (.slice a7 0 c7) ∧ w0.cell? ⟨q, 1, none⟩ = some (.int .i64 ((M.length : Int) + 1))) := Lib.hid (by
    have hq := World.block_lt_of_cell? _ _ q4
    have c := fun j => KW.out.cell hq (fun e => e) j
    exact ⟨(c _).trans q4, (c _).trans q5, (c _).trans q7, (c _).trans q1⟩)
  have HR0 := Lib.hid (r5.keep KW.out (fun _ _ e => e))
  have HM := Lib.hid hm
  have HWE := Lib.hid hw0.symm
  clear h ht hlt hn q4 q5 q7 q1 r5 hm hL hw0
  go_enter Tryz.func59, Tryz.ntmps59
  go_upto_region 1 with (fail)
  rw [HWE.out]
  generalize w.heap.size = bs at *
  have b0 : w0.drew.cell? ⟨bs, 0, none⟩ = some (.pointer (some ⟨q, 0, none⟩)) := HB0.out
  obtain ⟨q4, q5, q7, q1⟩ := HQ.out
  have HS1 : Hid ((fun w9 : World => w9.cell? ⟨bs, 0, none⟩ = some (.pointer (some ⟨q, 0, none⟩)) ∧ w9.cell? ⟨q, 4, none⟩ = some (.slice a4 0 c4) ∧ w9.cell? ⟨q, 5, none⟩ = some (.slice a5 L.length c5) ∧ w9.cell? ⟨q, 7, none⟩ = some (.slice a7 0 c7)) w0.drew) := Lib.hid ⟨b0, q4, q5, q7⟩
  have HG1 : Hid (∀ w9 : World, Keep (fun _ => False) w0.drew w9 → (fun w9 : World => w9.cell? ⟨bs, 0, none⟩ = some (.pointer (some ⟨q, 0, none⟩)) ∧ w9.cell? ⟨q, 4, none⟩ = some (.slice a4 0 c4) ∧ w9.cell? ⟨q, 5, none⟩ = some (.slice a5 L.length c5) ∧ w9.cell? ⟨q, 7, none⟩ = some (.slice a7 0 c7)) w9) := Lib.hid (fun w9 k9 => by
    have hS9 := HS1.out
    obtain ⟨z0, z1, z2, z3⟩ := hS9
    exact ⟨(k9.cell (World.block_lt_of_cell? _ _ z0) (fun h => h) _).trans z0, (k9.cell (World.block_lt_of_cell? _ _ z1) (fun h => h) _).trans z1, (k9.cell (World.block_lt_of_cell? _ _ z2) (fun h => h) _).trans z2, (k9.cell (World.block_lt_of_cell? _ _ z3) (fun h => h) _).trans z3⟩)
  have K0 : Hid (Keep (fun _ => False) w0.drew w0.drew) := Lib.hid (Keep.refl _ _)
  have KD : Hid (Keep (fun _ => False) w w0.drew) := Lib.hid KW.out.drew
  have HR5 : Hid (∀ w9, Keep (fun _ => False) w0.drew w9 → Rec w9 76 moC 4 (.slice a5 L.length c5) L) := Lib.hid (fun w9 k => (HR0.out.keep (Keep.refl (fun _ => False) w0).drew (fun _ _ e => e)).keep k (fun _ _ e => e))
  have HBQ : Hid (∀ w9, Keep (fun _ => False) w0.drew w9 → w9.cell? ⟨bs, 0, none⟩ = some (.pointer (some ⟨q, 0, none⟩)) ∧ w9.cell? ⟨q, 1, none⟩ = some (.int .i64 ((M.length : Int) + 1))) := Lib.hid (fun w9 k => ⟨(k.cell (cell_lt b0) (fun e => e) _).trans b0, (k.cell (cell_lt (w := w0.drew) q1) (fun e => e) _).trans q1⟩)
  clear b0 q4 q5 q7 q1 HQ HR0 HB0 HWE KW
  refine Cd.wp_region_z (fun w9 : World => w9.cell? ⟨bs, 0, none⟩ = some (.pointer (some ⟨q, 0, none⟩)) ∧ w9.cell? ⟨q, 4, none⟩ = some (.slice a4 0 c4) ∧ w9.cell? ⟨q, 5, none⟩ = some (.slice a5 L.length c5) ∧ w9.cell? ⟨q, 7, none⟩ = some (.slice a7 0 c7)) [] (by kernel_rfl) ?_
  generalize w0.drew = w0 at *
  refine Cd.wpAnyZ_loadD (i := 0) (d := 4) (v := ?_) rfl rfl (by kernel_rfl) (by kernel_rfl) (by kernel_rfl) (by kernel_rfl) (fun _ _ _ h => h) HS1.out (by rfl) ?_ ?_
  rotate_left 1
  · (intro w9 hS9; obtain ⟨z0, z1, z2, z3⟩ := hS9; go_simp <;> with_reducible rfl)
  simp only [Act.put, List.setIfInBounds_toArray, List.set_cons_succ, List.set_cons_zero]
  refine Cd.wpAnyZ_takeD (i := 1) (d := 5) (v := ?_) rfl rfl (by kernel_rfl) (by kernel_rfl) (by kernel_rfl) (fun _ _ _ h => h) (by rfl) ?_ ?_
  rotate_left 1
  · (intro w9; go_simp <;> with_reducible rfl)
  simp only [Act.put, List.setIfInBounds_toArray, List.set_cons_succ, List.set_cons_zero]
  refine Cd.wpAnyZ_takeD (i := 2) (d := 6) (v := ?_) rfl rfl (by kernel_rfl) (by kernel_rfl) (by kernel_rfl) (fun _ _ _ h => h) (by rfl) ?_ ?_
  rotate_left 1
  · (intro w9; go_simp <;> with_reducible rfl)
  simp only [Act.put, List.setIfInBounds_toArray, List.set_cons_succ, List.set_cons_zero]
  refine Cd.wpAnyZ_loadD (i := 3) (d := 7) (v := ?_) rfl rfl (by kernel_rfl) (by kernel_rfl) (by kernel_rfl) (by kernel_rfl) (fun _ _ _ h => h) HS1.out (by rfl) ?_ ?_
  rotate_left 1
  · (intro w9 hS9; obtain ⟨z0, z1, z2, z3⟩ := hS9; go_simp <;> with_reducible rfl)
  simp only [Act.put, List.setIfInBounds_toArray, List.set_cons_succ, List.set_cons_zero]
  refine Cd.wpAnyZ_loadD (i := 5) (d := 9) (v := ?_) rfl rfl (by kernel_rfl) (by kernel_rfl) (by kernel_rfl) (by kernel_rfl) (fun _ _ _ h => h) HS1.out (by rfl) ?_ ?_
  rotate_left 1
  · (intro w9 hS9; obtain ⟨z0, z1, z2, z3⟩ := hS9; go_simp <;> with_reducible rfl)
  simp only [Act.put, List.setIfInBounds_toArray, List.set_cons_succ, List.set_cons_zero]
  refine Cd.wpAnyZ_takeD (i := 6) (d := 10) (v := ?_) rfl rfl (by kernel_rfl) (by kernel_rfl) (by kernel_rfl) (fun _ _ _ h => h) (by rfl) ?_ ?_
  rotate_left 1
  · (intro w9; go_simp <;> with_reducible rfl)
  simp only [Act.put, List.setIfInBounds_toArray, List.set_cons_succ, List.set_cons_zero]
  refine Cd.wpAnyZ_takeD (i := 7) (d := 11) (v := ?_) rfl rfl (by kernel_rfl) (by kernel_rfl) (by kernel_rfl) (fun _ _ _ h => h) (by rfl) ?_ ?_
  rotate_left 1
  · (intro w9; go_simp <;> with_reducible rfl)
  simp only [Act.put, List.setIfInBounds_toArray, List.set_cons_succ, List.set_cons_zero]
  refine Cd.wpAnyZ_loadD (i := 8) (d := 12) (v := ?_) rfl rfl (by kernel_rfl) (by kernel_rfl) (by kernel_rfl) (by kernel_rfl) (fun _ _ _ h => h) HS1.out (by rfl) ?_ ?_
  rotate_left 1
  · (intro w9 hS9; obtain ⟨z0, z1, z2, z3⟩ := hS9; go_simp <;> with_reducible rfl)
  simp only [Act.put, List.setIfInBounds_toArray, List.set_cons_succ, List.set_cons_zero]
  refine Cd.wpAnyZ_loadD (i := 10) (d := 14) (v := ?_) rfl rfl (by kernel_rfl) (by kernel_rfl) (by kernel_rfl) (by kernel_rfl) (fun _ _ _ h => h) HS1.out (by rfl) ?_ ?_
  rotate_left 1
  · (intro w9 hS9; obtain ⟨z0, z1, z2, z3⟩ := hS9; go_simp <;> with_reducible rfl)
  simp only [Act.put, List.setIfInBounds_toArray, List.set_cons_succ, List.set_cons_zero]
  refine Cd.wpAnyZ_takeD (i := 11) (d := 15) (v := ?_) rfl rfl (by kernel_rfl) (by kernel_rfl) (by kernel_rfl) (fun _ _ _ h => h) (by rfl) ?_ ?_
  rotate_left 1
  · (intro w9; go_simp <;> with_reducible rfl)
  simp only [Act.put, List.setIfInBounds_toArray, List.set_cons_succ, List.set_cons_zero]
  refine Cd.wpAnyZ_takeD (i := 12) (d := 16) (v := ?_) rfl rfl (by kernel_rfl) (by kernel_rfl) (by kernel_rfl) (fun _ _ _ h => h) (by rfl) ?_ ?_
  rotate_left 1
  · (intro w9; go_simp <;> with_reducible rfl)
  simp only [Act.put, List.setIfInBounds_toArray, List.set_cons_succ, List.set_cons_zero]
  refine Cd.wpAnyZ_loadD (i := 13) (d := 17) (v := ?_) rfl rfl (by kernel_rfl) (by kernel_rfl) (by kernel_rfl) (by kernel_rfl) (fun _ _ _ h => h) HS1.out (by rfl) ?_ ?_
  rotate_left 1
  · (intro w9 hS9; obtain ⟨z0, z1, z2, z3⟩ := hS9; go_simp <;> with_reducible rfl)
  simp only [Act.put, List.setIfInBounds_toArray, List.set_cons_succ, List.set_cons_zero]
  refine Cd.wpAnyZ_one (i := 4) rfl (by kernel_rfl) (by rfl) ?_
  intro K9 hK9
  go_simp
  go_at_call 120
  (with_reducible refine idsNilThing_any.mono ?_)
  rintro e w1 ⟨rfl, k9⟩
  have K1 := Lib.hid (K0.out.trans k9 (fun _ h => h.elim))
  clear k9
  have HSQ1 : Hid ((fun w9 : World => w9.cell? ⟨bs, 0, none⟩ = some (.pointer (some ⟨q, 0, none⟩)) ∧ w9.cell? ⟨q, 4, none⟩ = some (.slice a4 0 c4) ∧ w9.cell? ⟨q, 5, none⟩ = some (.slice a5 L.length c5) ∧ w9.cell? ⟨q, 7, none⟩ = some (.slice a7 0 c7)) w1) := Lib.hid (HG1.out _ K1.out)
  refine hK9.out _ _ (fun _ _ => HSQ1.out) ?_
  clear hK9 K9
  refine Cd.wpAnyZ_one (i := 9) rfl (by kernel_rfl) (by rfl) ?_
  intro K9 hK9
  go_simp
  go_at_call 121
  (with_reducible refine (idsMob_any (HR5.out _ K1.out) hl).mono ?_)
  rintro e w2 ⟨vi, rfl, r2, o2, k9⟩
  obtain ⟨va, vc, rfl, -, -⟩ := r2.slice
  have K2 := Lib.hid (K1.out.trans k9 (fun _ h => h.elim))
  have R2 := Lib.hid r2
  clear k9 r2 o2
  have HSQ2 : Hid ((fun w9 : World => w9.cell? ⟨bs, 0, none⟩ = some (.pointer (some ⟨q, 0, none⟩)) ∧ w9.cell? ⟨q, 4, none⟩ = some (.slice a4 0 c4) ∧ w9.cell? ⟨q, 5, none⟩ = some (.slice a5 L.length c5) ∧ w9.cell? ⟨q, 7, none⟩ = some (.slice a7 0 c7)) w2) := Lib.hid (HG1.out _ K2.out)
  refine hK9.out _ _ (fun _ _ => HSQ2.out) ?_
  clear hK9 K9
  refine Cd.wpAnyZ_one (i := 14) rfl (by kernel_rfl) (by rfl) ?_
  intro K9 hK9
  go_simp
  go_at_call 122
  (with_reducible refine idsNilLot_any.mono ?_)
  rintro e w3 ⟨rfl, k9⟩
  have K3 := Lib.hid (K2.out.trans k9 (fun _ h => h.elim))
  have R3 := Lib.hid (R2.out.keep k9 (fun _ _ e => e))
  clear k9
  have HSQ3 : Hid ((fun w9 : World => w9.cell? ⟨bs, 0, none⟩ = some (.pointer (some ⟨q, 0, none⟩)) ∧ w9.cell? ⟨q, 4, none⟩ = some (.slice a4 0 c4) ∧ w9.cell? ⟨q, 5, none⟩ = some (.slice a5 L.length c5) ∧ w9.cell? ⟨q, 7, none⟩ = some (.slice a7 0 c7)) w3) := Lib.hid (HG1.out _ K3.out)
  refine hK9.out _ _ (fun _ _ => HSQ3.out) ?_
  clear hK9 K9
  refine Cd.wpAnyZ_one (i := 15) rfl (by kernel_rfl) (by rfl) ?_
  intro K9 hK9
  go_simp
  have hA : Keep (fun _ => False) w3 (w3.alloc (.cells #[.slice none 0 0, .slice va L.length vc, .slice none 0 0] 175)) := (Keep.refl _ w3).alloc _
  have hbk := heap_alloc_new w3 (.cells #[.slice none 0 0, .slice va L.length vc, .slice none 0 0] 175)
  have RA := Lib.hid (R3.out.keep hA (fun _ _ e => e))
  have C0 := Lib.hid ((cell_of_row _ _ 0 _ _ _ hbk).trans (rfl : _ = some (Value.slice none 0 0)))
  have C1 := Lib.hid ((cell_of_row _ _ 1 _ _ _ hbk).trans (rfl : _ = some (Value.slice va L.length vc)))
  have C2 := Lib.hid ((cell_of_row _ _ 2 _ _ _ hbk).trans (rfl : _ = some (Value.slice none 0 0)))
  have K4 := Lib.hid (K3.out.trans hA (fun _ h => h.elim))
  have HSQ4 : Hid ((fun w9 : World => w9.cell? ⟨bs, 0, none⟩ = some (.pointer (some ⟨q, 0, none⟩)) ∧ w9.cell? ⟨q, 4, none⟩ = some (.slice a4 0 c4) ∧ w9.cell? ⟨q, 5, none⟩ = some (.slice a5 L.length c5) ∧ w9.cell? ⟨q, 7, none⟩ = some (.slice a7 0 c7)) (w3.alloc (.cells #[.slice none 0 0, .slice va L.length vc, .slice none 0 0] 175))) := Lib.hid (HG1.out _ K4.out)
  clear hA hbk
  refine hK9.out _ _ (fun _ _ => HSQ4.out) ?_
  clear hK9 K9
  refine Cd.wpAnyZ_one (i := 16) rfl (by kernel_rfl) (by rfl) ?_
  intro K9 hK9
  go_simp
  have hcc := concatL_any (l := idsL L) (by rw [show (idsL L).length = L.length by simp [idsL]]; exact RA.out) (by simp [idsL]; omega) C0.out C1.out C2.out
  go_at_call 119
  (refine hcc.mono ?_)
  rintro e w5 ⟨vcc, rfl, r5, o5, k9⟩
  have K5 := Lib.hid (K4.out.trans k9 (fun _ h => h.elim))
  have R5 := Lib.hid r5
  have O5 : Hid (∀ b, vcc.ownBlock = some b → w0.heap.size ≤ b) := Lib.hid (fun b hb => Nat.le_trans K4.out.size (o5 b hb))
  clear k9 r5 o5 hcc
  have HSQ5 : Hid ((fun w9 : World => w9.cell? ⟨bs, 0, none⟩ = some (.pointer (some ⟨q, 0, none⟩)) ∧ w9.cell? ⟨q, 4, none⟩ = some (.slice a4 0 c4) ∧ w9.cell? ⟨q, 5, none⟩ = some (.slice a5 L.length c5) ∧ w9.cell? ⟨q, 7, none⟩ = some (.slice a7 0 c7)) w5) := Lib.hid (HG1.out _ K5.out)
  refine hK9.out _ _ (fun _ _ => HSQ5.out) ?_
  clear hK9 K9
  refine Cd.wpAnyZ_takeD (i := 17) (d := 3) (v := ?_) rfl rfl (by kernel_rfl) (by kernel_rfl) (by kernel_rfl) (fun _ _ _ h => h) (by rfl) ?_ ?_
  rotate_left 1
  · (intro w9; go_simp <;> with_reducible rfl)
  simp only [Act.put, List.setIfInBounds_toArray, List.set_cons_succ, List.set_cons_zero]
  refine Cd.wpAnyZ_done (by kernel_rfl) ?_ _
  have HRL := Lib.hid (show Row w5 2 1 vcc (idsL L).length (icells (idsL L)) from R5.out)
  obtain ⟨ca, cc, rfl, hcc1, hcc2⟩ := HRL.out.slice
  have hsort := sortLs_any HRL.out (by simp [idsL]; omega)
  rw [sortI_rises (by rw [HM.out]; exact idsL_rise M)] at hsort
  have HSO := Lib.hid hsort
  clear hsort
  go_wp2_with (go_at_call 123; (with_reducible refine HSO.out.mono ?_); rintro e w6 ⟨rfl, r6, k6⟩; have R6 := Lib.hid r6; have K6 := Lib.hid (K5.out.trans k6 (fun b hb => .inr (O5.out b hb))); clear r6 k6; have hris := risesNuE_any (w := w6) (by have := R6.out.seen; rwa [icells_flatC] at this) (by simp [idsL]; omega); have hall := fun (w8 : World) (k8 : Keep (fun _ => False) w6 w8) => allNuE_any (w := w8) (L := idsL L) (by have := (R6.out.seen.keep k8 (fun _ _ _ e => e)); rwa [icells_flatC] at this) (fun x => decide (0 < x) && decide (x < (M.length : Int) + 1)) (lb := #[.pointer (some ⟨bs, 0, none⟩)]) Tryz.en_numC (fun x _ w7 k7 => numC_any (HBQ.out w7 ((K6.out.trans k8 (fun _ e => e.elim)).trans k7 (fun _ e => e.elim))).1 (HBQ.out w7 ((K6.out.trans k8 (fun _ e => e.elim)).trans k7 (fun _ e => e.elim))).2 x); rw [show (idsL L).all (fun x => decide (0 < x) && decide (x < (M.length : Int) + 1)) = true from by rw [HM.out]; exact idsL_in M] at hall; have HRI := Lib.hid hris; have HAL := Lib.hid hall; clear hris hall)
  clear hcc1 hcc2
  go_wp2_with (first
    | (go_at_call 124; (with_reducible refine HRI.out.mono ?_); rintro e w7 ⟨b7, rfl, hb7, k7⟩; obtain rfl : b7 = true := hb7.2 (by rw [HM.out]; exact idsL_rise M); have K7 := Lib.hid k7; clear k7 hb7)
    | (go_at_call 126; (with_reducible refine (HAL.out _ K7.out).mono ?_); rintro e w8 ⟨rfl, k8⟩; have K8 := Lib.hid k8; clear k8))
  go_ret
  exact ⟨rfl, ((KD.out.trans K6.out (fun _ e => e.elim)).trans K7.out (fun _ e => e.elim)).trans K8.out (fun _ e => e.elim)⟩
end Go.Proofs.YtheaghgockafmaaGreat.Wd
