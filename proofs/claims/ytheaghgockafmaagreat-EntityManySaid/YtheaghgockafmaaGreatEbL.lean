/- EntityMany's law (made by tools/genmany.py). -/
import Derived.Test.YtheaghgockafmaaGreatEbK
import Derived.Deep.CutRange
import Derived.Deep.CutBlock
namespace Go.Proofs.YtheaghgockafmaaGreat.Wd
open Go.RowKit Go.Maps Go.Proofs.YtheaghgockafmaaGreat Go.Proofs.YtheaghgockafmaaGreat.Lin
set_option maxRecDepth 100000

open Go.Sort
/-- The small world with so many things more. -/
def manyF (k : Nat) : WM := { newF baseD with things := (List.range (min k 200)).map (fun i : Nat => ⟨3 + (i : Int), 3, 2, 0, ⟨#[120]⟩⟩), next := 3 + ((min k 200 : Nat) : Int) }
theorem many_zero : manyF 0 = newF baseD := rfl
theorem many_len (k : Nat) : (manyF k).things.length = min k 200 := by simp [manyF]
theorem many_get {k i : Nat} (h : i < min k 200) : (manyF k).things[i]? = some ⟨3 + (i : Int), 3, 2, 0, ⟨#[120]⟩⟩ := by
  unfold manyF
  rw [List.getElem?_map, List.getElem?_range h]
  rfl
theorem many_step (k : Nat) : (if (manyF k).things.length < 200 then madeW (manyF k) 3 2 0 ⟨#[120]⟩ else manyF k) = manyF (k + 1) := by
  rw [many_len]
  by_cases h : k < 200
  · rw [if_pos (by omega)]
    have h1 : min k 200 = k := by omega
    have h2 : min (k + 1) 200 = k + 1 := by omega
    unfold madeW manyF
    simp only [h1, h2, List.range_succ, List.map_append, List.map_cons, List.map_nil, WM.mk.injEq, true_and, and_true]
    unfold wrap64
    omega
  · rw [if_neg (by omega)]
    unfold manyF
    rw [show min (k + 1) 200 = min k 200 by omega]
/-- Behind a function of worlds that turned a new one. -/
theorem NwR.we {w0 w w' : World} {q : Nat} {W W' : WM} (h : NwR w0 q W w) (hc : ∀ N, WAt N w q W → (∀ b, N b → b < w.heap.size) → WE N w w' q W') : NwR w0 q W' w' := by
  obtain ⟨N, v1, v2, v3, v4, v5, v6, cr, hr, h1, h2, h3⟩ := h.ex
  obtain ⟨N', ⟨u1, u2, u3, u4, u5, u6, cr', hr', h4⟩, h5, h6⟩ := (hc N ⟨v1, v2, v3, v4, v5, v6, cr, hr, h1⟩ (fun b hb => (h3 b hb).2)).ex
  refine ⟨⟨N', u1, u2, u3, u4, u5, u6, cr', hr', h4, h2.trans h5.keep (fun b hb => .inr (h3 b hb).1), fun b hb => ⟨?_, ?_⟩⟩⟩
  · rcases h5.new b hb with h7 | h7
    · exact (h3 b h7).1
    · exact Nat.le_trans h2.size h7
  · rcases h6 b hb with h7 | h7
    · exact Nat.lt_of_lt_of_le (h3 b h7).2 h5.keep.size
    · exact h7
structure MaR (n : Nat) (w0 : World) (q : Nat) (iv : Value) (wr : World) : Prop where
  ex : ∃ k : Nat, k ≤ n ∧ iv = .int .i64 (k : Int) ∧ NwR w0 q (manyF k) wr
structure MbR (n : Nat) (w0 : World) (iv : Value) (wr : World) : Prop where
  ex : ∃ m : Nat, (m + 1 ≤ n ∨ m = 0) ∧ iv = .int .i64 ((m + 1 : Nat) : Int) ∧ Keep (fun _ => False) w0 wr

set_option maxHeartbeats 8000000 in
theorem many16_any {w : World} (z : Int) : Calls Tryz.prog 5 #[.int .i64 z] w fun e w' => e = .returned (.bool true) ∧ Keep (fun _ => False) w w' := by
  by_cases hz : z < 0 ∨ 220 < z
  · by_cases hz0 : z < 0
    · have d0 : decide (z < 0) = true := by simpa using hz0
      go_enter Tryz.func5, Tryz.ntmps5
      go_wp2_with (go_at_call 6; (with_reducible refine begun16_any.mono ?_); rintro e w1 ⟨rfl, k1⟩; have K1 := Lib.hid k1; clear k1)
      go_ret
      exact ⟨rfl, K1.out⟩
    · have d0 : decide (z < 0) = false := by simpa using hz0
      have d1 : decide (220 < z) = true := by rw [decide_eq_true_eq]; omega
      go_enter Tryz.func5, Tryz.ntmps5
      go_wp2_with (go_at_call 6; (with_reducible refine begun16_any.mono ?_); rintro e w1 ⟨rfl, k1⟩; have K1 := Lib.hid k1; clear k1)
      go_ret
      exact ⟨rfl, K1.out⟩
  obtain ⟨n, rfl⟩ : ∃ n : Nat, z = n := ⟨z.toNat, by omega⟩
  have hn : n ≤ 220 := by omega
  have d0 : decide ((n : Int) < 0) = false := by rw [decide_eq_false_iff_not]; omega
  have d1 : decide (220 < (n : Int)) = false := by rw [decide_eq_false_iff_not]; omega
  clear hz
  go_enter Tryz.func5, Tryz.ntmps5
  go_wp2_with (first
    | (go_at_call 6; (with_reducible refine begun16_any.mono ?_); rintro e w1 ⟨rfl, k1⟩; have K1 := Lib.hid k1; clear k1)
    | (go_at_call 27; (with_reducible refine base_any.mono ?_); rintro e w2 ⟨d, rfl, hd⟩; have HD := Lib.hid hd; clear hd)
    | (go_at_call 22; obtain ⟨P1, hdb, hkd, -⟩ := HD.out.ex; (with_reducible refine (entNew_all hdb base_sz base_check).mono ?_); rintro e w3 ⟨q, rfl, hn3⟩; have HN := Lib.hid hn3; have K3 := Lib.hid ((K1.out.trans hkd (fun _ e => e.elim))); clear hdb hkd hn3))
  go_loopw [5] (fun iv wr => MaR n w2 q iv wr) (fun iv _ => n - (intOf iv).toNat)
  case atStart => exact ⟨0, by omega, rfl, by rw [many_zero]; exact HN.out⟩
  case round =>
    obtain ⟨k, hk, rfl, hN⟩ := hrel.ex
    have HK := Lib.hid hN
    clear hrel hN
    by_cases hlt : k < n
    · have e1 : decide ((k : Int) < (n : Int)) = true := by rw [decide_eq_true_eq]; omega
      have e1' : decide (k < n) = true := by simpa using hlt
      have e2 : decide (((manyF k).things.length) < 200) = decide (k < 200) := by rw [many_len]; congr 1; apply propext; omega
      have e3 : decide ((k : Int) < 200) = decide (k < 200) := by congr 1; apply propext; omega
      obtain ⟨b, hb⟩ : ∃ b, b = decide (k < 200) := ⟨_, rfl⟩
      have HCM : Hid (∃ N, WAt N wr q (manyF k) ∧ Calls Tryz.prog 10 #[.pointer (some ⟨q, 0, none⟩), .int .i64 3, .agg #[.int .i64 0, .int .i64 0, .int .i64 2, .int .i64 0, .string ⟨#[120]⟩]] wr fun e w' => e = .returned (.bool b) ∧ NwR w2 q (manyF (k + 1)) w') := Lib.hid (by
        obtain ⟨N, v1, v2, v3, v4, v5, v6, cr, hr, h1, h2, h3⟩ := HK.out.ex
        refine ⟨N, ⟨_, _, _, _, _, _, _, _, h1⟩, ?_⟩
        refine (entMake_any ⟨_, _, _, _, _, _, _, _, h1⟩ (by rw [many_len]; omega) (by show (3 : Int) + ((min k 200 : Nat) : Int) ≠ _; omega) (fun b hb => (h3 b hb).2) 3 0 0 2 0 ⟨#[120]⟩).mono fun e w' hh => ⟨by rw [hh.1, e2, hb], ?_⟩
        have hwe := hh.2
        rw [many_step] at hwe
        obtain ⟨N', ⟨u1, u2, u3, u4, u5, u6, cr', hr', h4⟩, h5, h6⟩ := hwe.ex
        refine ⟨⟨N', u1, u2, u3, u4, u5, u6, cr', hr', h4, h2.trans h5.keep (fun b hb => .inr (h3 b hb).1), fun b hb => ⟨?_, ?_⟩⟩⟩
        · rcases h5.new b hb with h7 | h7
          · exact (h3 b h7).1
          · exact Nat.le_trans h2.size h7
        · rcases h6 b hb with h7 | h7
          · exact Nat.lt_of_lt_of_le (h3 b h7).2 h5.keep.size
          · exact h7)
      obtain ⟨NX, -, hcm⟩ := HCM.out
      have HC := Lib.hid hcm
      rw [← hb] at e3
      clear hcm e2 hb HCM
      have e4 : (b != b) = false := by cases b <;> rfl
      have hki : IntKind.i64.wrap ((k : Int) + 1) = ((k + 1 : Nat) : Int) := by simp [IntKind.wrap, IntKind.signed, IntKind.bits]; omega
      go_wp2_with (go_at_call 10; (with_reducible refine HC.out.mono ?_); rintro e w4 ⟨rfl, h4⟩; have H4 := Lib.hid h4; clear h4)
      go_roundw
      case rel => exact ⟨k + 1, by omega, by go_num, H4.out⟩
      case measure => simp [intOf] <;> omega
    · have e1 : decide ((k : Int) < (n : Int)) = false := by rw [decide_eq_false_iff_not]; omega
      have e1' : decide (k < n) = false := by simpa using hlt
      have hkn : k = n := by omega
      subst hkn
      clear hlt
      obtain ⟨N, hw⟩ := HK.out.wat
      obtain ⟨a4, c4, q4, r4, hc1, hc2⟩ := hw.things
      rw [many_len] at q4 r4 hc1
      have q1 := HK.out.own.2.1
      rw [show (manyF k).next = 3 + ((min k 200 : Nat) : Int) from rfl] at q1
      obtain ⟨nn, hnn⟩ : ∃ nn, nn = min k 200 := ⟨_, rfl⟩
      rw [← hnn] at q4 q1 hc1 r4
      have hnn9 : nn ≤ 200 := by omega
      have R4 := Lib.hid r4
      have HNN := Lib.hid hnn
      have KF := Lib.hid (K3.out.trans HK.out.k (fun _ e => e.elim))
      have HGET : Hid (∀ i, i < nn → (manyF k).things[i]? = some ⟨3 + (i : Int), 3, 2, 0, ⟨#[120]⟩⟩) := Lib.hid (fun i hi => many_get (by omega))
      have HQ : Hid (∀ w9, Keep (fun _ => False) wr w9 → w9.cell? ⟨q, 4, none⟩ = some (.slice a4 nn c4) ∧ w9.cell? ⟨q, 1, none⟩ = some (.int .i64 (3 + (nn : Int)))) := Lib.hid (fun w9 k9 => ⟨(k9.cell (World.block_lt_of_cell? _ _ q4) (fun e => e) _).trans q4, (k9.cell (World.block_lt_of_cell? _ _ q1) (fun e => e) _).trans q1⟩)
      clear hw r4 q1 q4 hnn HK HN K3 HD
      go_wp2
      go_loopw [6] (fun iv wq => MbR nn wr iv wq) (fun iv _ => nn + 1 - (intOf iv).toNat)
      case atStart => exact ⟨0, .inr rfl, rfl, Keep.refl _ _⟩
      case round =>
        obtain ⟨m, hm, rfl, hK⟩ := hrel.ex
        have HKK := Lib.hid hK
        obtain ⟨q4, q1⟩ := HQ.out _ hK
        clear hrel hK
        obtain ⟨k9, hk9⟩ : ∃ k9, k9 = m + 1 := ⟨_, rfl⟩
        rw [← hk9]
        by_cases hlt : k9 < nn
        · have e1 : decide ((k9 : Int) < (nn : Int)) = true := by rw [decide_eq_true_eq]; omega
          have e1' : decide (k9 < nn) = true := by simpa using hlt
          have hmn : m < nn := by omega
          have R5 := R4.out.keep HKK.out (fun _ _ e => e)
          obtain ⟨g, off, rfl, hg⟩ := R5.some (HGET.out k9 hlt)
          have qk : wr.cell? ⟨g, off + k9 * 5, none⟩ = some (.int .i64 (3 + (k9 : Int))) := by simpa using R5.range thC_len k9 _ (HGET.out k9 hlt) 0 _ rfl
          have qm : wr.cell? ⟨g, off + m * 5, none⟩ = some (.int .i64 (3 + (m : Int))) := by simpa using R5.range thC_len m _ (HGET.out m hmn) 0 _ rfl
          have f1 : (k9 : Int) - 1 = (m : Int) := by omega
          have f2 : IntKind.i64.wrap (m : Int) = (m : Int) := Cd.i64_nat m (by omega)
          have f3 : IntKind.i64.wrap (3 + (m : Int) + 1) = 3 + (m : Int) + 1 := by simp [IntKind.wrap, IntKind.signed, IntKind.bits]; omega
          have f4 : ((3 + (k9 : Int)) != 3 + (m : Int) + 1) = false := by rw [bne_eq_false_iff_eq]; omega
          have hki : IntKind.i64.wrap ((k9 : Int) + 1) = ((k9 + 1 : Nat) : Int) := by simp [IntKind.wrap, IntKind.signed, IntKind.bits]; omega
          have d9 : decide (m < nn) = true := by simpa using hmn
          have HK9 := Lib.hid hk9
          clear R5 hk9 hm
          go_upto_region 15 with (fail)
          have HS1 : Hid ((fun w9 : World => w9.cell? ⟨q, 4, none⟩ = some (.slice (some ⟨g, off, none⟩) nn c4) ∧ w9.cell? ⟨g, off + k9 * 5, none⟩ = some (.int .i64 (3 + (k9 : Int))) ∧ w9.cell? ⟨g, off + m * 5, none⟩ = some (.int .i64 (3 + (m : Int)))) wr.drew) := Lib.hid ⟨q4, qk, qm⟩
          have HKD := Lib.hid (HKK.out.drew)
          clear q4 qk qm q1
          refine Cd.wp_region_z (fun w9 : World => w9.cell? ⟨q, 4, none⟩ = some (.slice (some ⟨g, off, none⟩) nn c4) ∧ w9.cell? ⟨g, off + k9 * 5, none⟩ = some (.int .i64 (3 + (k9 : Int))) ∧ w9.cell? ⟨g, off + m * 5, none⟩ = some (.int .i64 (3 + (m : Int)))) [] (by kernel_rfl) ?_
          generalize wr.drew = wd at *
          refine Cd.wpAnyZ_takeD (i := 0) (d := 39) (v := ?_) rfl rfl (by kernel_rfl) (by kernel_rfl) (by kernel_rfl) (fun _ _ _ h => h) (by rfl) ?_ ?_
          rotate_left 1
          · (intro w9; go_simp <;> with_reducible rfl)
          simp only [Act.put, List.setIfInBounds_toArray, List.set_cons_succ, List.set_cons_zero]
          refine Cd.wpAnyZ_takeD (i := 1) (d := 40) (v := ?_) rfl rfl (by kernel_rfl) (by kernel_rfl) (by kernel_rfl) (fun _ _ _ h => h) (by rfl) ?_ ?_
          rotate_left 1
          · (intro w9; go_simp <;> with_reducible rfl)
          simp only [Act.put, List.setIfInBounds_toArray, List.set_cons_succ, List.set_cons_zero]
          refine Cd.wpAnyZ_takeD (i := 2) (d := 41) (v := ?_) rfl rfl (by kernel_rfl) (by kernel_rfl) (by kernel_rfl) (fun _ _ _ h => h) (by rfl) ?_ ?_
          rotate_left 1
          · (intro w9; go_simp <;> with_reducible rfl)
          simp only [Act.put, List.setIfInBounds_toArray, List.set_cons_succ, List.set_cons_zero]
          refine Cd.wpAnyZ_loadD (i := 3) (d := 42) (v := ?_) rfl rfl (by kernel_rfl) (by kernel_rfl) (by kernel_rfl) (by kernel_rfl) (fun _ _ _ h => h) HS1.out (by rfl) ?_ ?_
          rotate_left 1
          · (intro w9 hS9; obtain ⟨z0, z1, z2⟩ := hS9; go_simp <;> with_reducible rfl)
          simp only [Act.put, List.setIfInBounds_toArray, List.set_cons_succ, List.set_cons_zero]
          refine Cd.wpAnyZ_takeD (i := 4) (d := 43) (v := ?_) rfl rfl (by kernel_rfl) (by kernel_rfl) (by kernel_rfl) (fun _ _ _ h => h) (by rfl) ?_ ?_
          rotate_left 1
          · (intro w9; go_simp <;> with_reducible rfl)
          simp only [Act.put, List.setIfInBounds_toArray, List.set_cons_succ, List.set_cons_zero]
          refine Cd.wpAnyZ_takeD (i := 5) (d := 44) (v := ?_) rfl rfl (by kernel_rfl) (by kernel_rfl) (by kernel_rfl) (fun _ _ _ h => h) (by rfl) ?_ ?_
          rotate_left 1
          · (intro w9; go_simp <;> with_reducible rfl)
          simp only [Act.put, List.setIfInBounds_toArray, List.set_cons_succ, List.set_cons_zero]
          refine Cd.wpAnyZ_takeD (i := 6) (d := 45) (v := ?_) rfl rfl (by kernel_rfl) (by kernel_rfl) (by kernel_rfl) (fun _ _ _ h => h) (by rfl) ?_ ?_
          rotate_left 1
          · (intro w9; go_simp <;> with_reducible rfl)
          simp only [Act.put, List.setIfInBounds_toArray, List.set_cons_succ, List.set_cons_zero]
          refine Cd.wpAnyZ_loadD (i := 7) (d := 46) (v := ?_) rfl rfl (by kernel_rfl) (by kernel_rfl) (by kernel_rfl) (by kernel_rfl) (fun _ _ _ h => h) HS1.out (by rfl) ?_ ?_
          rotate_left 1
          · (intro w9 hS9; obtain ⟨z0, z1, z2⟩ := hS9; go_simp <;> with_reducible rfl)
          simp only [Act.put, List.setIfInBounds_toArray, List.set_cons_succ, List.set_cons_zero]
          refine Cd.wpAnyZ_takeD (i := 8) (d := 47) (v := ?_) rfl rfl (by kernel_rfl) (by kernel_rfl) (by kernel_rfl) (fun _ _ _ h => h) (by rfl) ?_ ?_
          rotate_left 1
          · (intro w9; go_simp <;> with_reducible rfl)
          simp only [Act.put, List.setIfInBounds_toArray, List.set_cons_succ, List.set_cons_zero]
          refine Cd.wpAnyZ_takeD (i := 9) (d := 48) (v := ?_) rfl rfl (by kernel_rfl) (by kernel_rfl) (by kernel_rfl) (fun _ _ _ h => h) (by rfl) ?_ ?_
          rotate_left 1
          · (intro w9; go_simp <;> with_reducible rfl)
          simp only [Act.put, List.setIfInBounds_toArray, List.set_cons_succ, List.set_cons_zero]
          refine Cd.wpAnyZ_takeD (i := 10) (d := 49) (v := ?_) rfl rfl (by kernel_rfl) (by kernel_rfl) (by kernel_rfl) (fun _ _ _ h => h) (by rfl) ?_ ?_
          rotate_left 1
          · (intro w9; go_simp <;> with_reducible rfl)
          simp only [Act.put, List.setIfInBounds_toArray, List.set_cons_succ, List.set_cons_zero]
          refine Cd.wpAnyZ_loadD (i := 11) (d := 50) (v := ?_) rfl rfl (by kernel_rfl) (by kernel_rfl) (by kernel_rfl) (by kernel_rfl) (fun _ _ _ h => h) HS1.out (by rfl) ?_ ?_
          rotate_left 1
          · (intro w9 hS9; obtain ⟨z0, z1, z2⟩ := hS9; go_simp <;> with_reducible rfl)
          simp only [Act.put, List.setIfInBounds_toArray, List.set_cons_succ, List.set_cons_zero]
          refine Cd.wpAnyZ_takeD (i := 12) (d := 51) (v := ?_) rfl rfl (by kernel_rfl) (by kernel_rfl) (by kernel_rfl) (fun _ _ _ h => h) (by rfl) ?_ ?_
          rotate_left 1
          · (intro w9; go_simp <;> with_reducible rfl)
          simp only [Act.put, List.setIfInBounds_toArray, List.set_cons_succ, List.set_cons_zero]
          refine Cd.wpAnyZ_takeD (i := 13) (d := 52) (v := ?_) rfl rfl (by kernel_rfl) (by kernel_rfl) (by kernel_rfl) (fun _ _ _ h => h) (by rfl) ?_ ?_
          rotate_left 1
          · (intro w9; go_simp <;> with_reducible rfl)
          simp only [Act.put, List.setIfInBounds_toArray, List.set_cons_succ, List.set_cons_zero]
          refine Cd.wpAnyZ_takeD (i := 14) (d := 53) (v := ?_) rfl rfl (by kernel_rfl) (by kernel_rfl) (by kernel_rfl) (fun _ _ _ h => h) (by rfl) ?_ ?_
          rotate_left 1
          · (intro w9; go_simp <;> with_reducible rfl)
          simp only [Act.put, List.setIfInBounds_toArray, List.set_cons_succ, List.set_cons_zero]
          refine Cd.wpAnyZ_takeD (i := 15) (d := 54) (v := ?_) rfl rfl (by kernel_rfl) (by kernel_rfl) (by kernel_rfl) (fun _ _ _ h => h) (by rfl) ?_ ?_
          rotate_left 1
          · (intro w9; go_simp <;> with_reducible rfl)
          simp only [Act.put, List.setIfInBounds_toArray, List.set_cons_succ, List.set_cons_zero]
          refine Cd.wpAnyZ_loadD (i := 16) (d := 55) (v := ?_) rfl rfl (by kernel_rfl) (by kernel_rfl) (by kernel_rfl) (by kernel_rfl) (fun _ _ _ h => h) HS1.out (by rfl) ?_ ?_
          rotate_left 1
          · (intro w9 hS9; obtain ⟨z0, z1, z2⟩ := hS9; go_simp <;> with_reducible rfl)
          simp only [Act.put, List.setIfInBounds_toArray, List.set_cons_succ, List.set_cons_zero]
          refine Cd.wpAnyZ_takeD (i := 17) (d := 56) (v := ?_) rfl rfl (by kernel_rfl) (by kernel_rfl) (by kernel_rfl) (fun _ _ _ h => h) (by rfl) ?_ ?_
          rotate_left 1
          · (intro w9; go_simp <;> with_reducible rfl)
          simp only [Act.put, List.setIfInBounds_toArray, List.set_cons_succ, List.set_cons_zero]
          refine Cd.wpAnyZ_takeD (i := 18) (d := 57) (v := ?_) rfl rfl (by kernel_rfl) (by kernel_rfl) (by kernel_rfl) (fun _ _ _ h => h) (by rfl) ?_ ?_
          rotate_left 1
          · (intro w9; go_simp <;> with_reducible rfl)
          simp only [Act.put, List.setIfInBounds_toArray, List.set_cons_succ, List.set_cons_zero]
          refine Cd.wpAnyZ_done (by kernel_rfl) ?_ _
          go_wp2
          go_roundw
          case rel => exact ⟨k9, .inl (by omega), by go_num, HKD.out⟩
          case measure => have := HK9.out; simp [intOf] <;> omega
        · have e1 : decide ((k9 : Int) < (nn : Int)) = false := by rw [decide_eq_false_iff_not]; omega
          have e1' : decide (k9 < nn) = false := by simpa using hlt
          have g1 : min (k : Int) 200 = (nn : Int) := by have := HNN.out; omega
          have g2 : IntKind.i64.wrap (3 + (nn : Int)) = 3 + (nn : Int) := by simp [IntKind.wrap, IntKind.signed, IntKind.bits]; omega
          clear hk9
          go_wp2
          go_ret
          exact ⟨by simp, KF.out.trans HKK.out (fun _ e => e.elim)⟩
end Go.Proofs.YtheaghgockafmaaGreat.Wd
