/- Texts: the reference's Print. -/
import Derived.Test.YtcodbomgodkcmaaGreatDoorLinR
namespace Go.Proofs.YtcodbomgodkcmaaGreatDoor.Lin
open Go.RowKit Go.Maps Go.Proofs.YtcodbomgodkcmaaGreatDoor
set_option maxRecDepth 100000

/-- The digits that are still to come. -/
def restD (n : Nat) : List UInt8 := if n = 0 then [] else decL n
theorem restD_zero : restD 0 = [] := rfl
theorem restD_pos {n : Nat} (h : n ≠ 0) : restD n = decL n := by unfold restD; rw [if_neg h]
theorem restD_step {n : Nat} (h : n ≠ 0) : restD n = restD (n / 10) ++ [dig n] := by
  rw [restD_pos h]
  by_cases h1 : n < 10
  · rw [decL_lt h1, show n / 10 = 0 by omega, restD_zero]; rfl
  · rw [decL_ge h1, restD_pos (by omega)]

structure PrR (z : Int) (w0 : World) (sv kv dv : Value) (wr : World) : Prop where
  ex : ∃ (k : Int) (t : ByteArray), sv = .string t ∧ kv = .int .i64 k ∧ k.natAbs ≤ z.natAbs ∧ -9223372036854775808 ≤ k ∧ k ≤ 9223372036854775807 ∧ restD k.natAbs ++ t.data.toList = decL z.natAbs ∧ Keep (fun x => w0.heap.size ≤ x) w0 wr

theorem conv_one (w : World) (c : UInt8) : (convert 89 9 (.slice (some ⟨w.heap.size, 0, none⟩) 1 1)).run Tryz.prog (w.alloc (.cells #[.int .u8 (c.toNat : Int)] 5)) = .ok (.string ⟨#[c]⟩) (w.alloc (.cells #[.int .u8 (c.toNat : Int)] 5)) :=
  run_string_of_bytes (l := [c]) (fun j hj => by
    simp at hj; subst hj
    rw [cell_of_row _ _ _ _ _ _ (heap_alloc_new w _)]; rfl) _ _ _ _ _ rfl Tryz.underlying89 Tryz.underlying5 Tryz.underlying9

theorem tmod_case (k : Int) : ∃ q : Nat, q = k.natAbs % 10 ∧ (k.tmod 10 = (q : Int) ∨ (k.tmod 10 = -(q : Int) ∧ 0 < q)) := by
  refine ⟨_, rfl, ?_⟩
  have e : ∀ n : Nat, ((n : Int)).tmod 10 = ((n % 10 : Nat) : Int) := fun n => by
    rw [Int.tmod_eq_emod_of_nonneg (by omega)]; omega
  rcases Int.natAbs_eq k with h | h
  · left; rw [h, e]; simp
  · by_cases h0 : k.natAbs % 10 = 0
    · left; rw [h, Int.neg_tmod, e]; simp; omega
    · right; refine ⟨?_, by omega⟩; rw [h, Int.neg_tmod, e]; simp

theorem tdiv_abs (k : Int) : (k.tdiv 10).natAbs = k.natAbs / 10 := Int.natAbs_tdiv k 10

set_option maxHeartbeats 1000000 in
theorem refPrint_any (z : Int) (h1 : -9223372036854775808 ≤ z) (h2 : z ≤ 9223372036854775807) {w : World} : Calls Tryz.prog 14 #[.int .i64 z] w fun e w' => (∃ t : ByteArray, e = .returned (.string t) ∧ t.data.toList = printL z) ∧ Keep (fun _ => False) w w' := by
  by_cases h0 : z = 0
  · subst h0
    go_enter Tryz.func14, Tryz.ntmps14
    go_wp2
    go_ret
    exact ⟨⟨_, rfl, by unfold printL; rw [if_neg (by omega), decL_lt (by decide)]; rfl⟩, Keep.refl _ _⟩
  · have d0 : (z == 0) = false := by simpa using h0
    go_enter Tryz.func14, Tryz.ntmps14
    go_wp2
    go_loopw [3, 4, 5] (fun sv kv dv wr => PrR z w sv kv dv wr) (fun _ kv _ _ => (intOf kv).natAbs)
    case atStart => exact ⟨z, ⟨#[]⟩, rfl, rfl, Nat.le_refl _, h1, h2, by rw [restD_pos (by omega)]; simp, Keep.refl _ _⟩
    case round =>
      obtain ⟨k, t, rfl, rfl, hk, hk1, hk2, ht, hK⟩ := hrel.ex
      have hts : t.size ≤ 19 := by
        have h1 := congrArg List.length ht
        have h2 := decL_len 18 z.natAbs (by omega)
        rw [List.length_append, str_len] at h1
        omega
      have HT := Lib.hid ht
      have HK := Lib.hid hK
      clear ht hK hrel
      by_cases hk0 : k = 0
      · have dk : (k != 0) = false := by simp [hk0]
        have HF : Hid (t.data.toList = decL z.natAbs) := Lib.hid (by have h := HT.out; rw [hk0] at h; simpa [restD_zero] using h)
        clear hk0
        by_cases hn : z < 0
        · have d1 : decide (z < 0) = true := by simpa using hn
          go_wp2
          go_ret
          refine ⟨⟨_, rfl, ?_⟩, HK.out.mono (fun i hi h => by omega)⟩
          unfold printL
          rw [if_pos hn, ← HF.out]
          simp
        · have d1 : decide (z < 0) = false := by simpa using hn
          go_wp2
          go_ret
          refine ⟨⟨_, rfl, ?_⟩, HK.out.mono (fun i hi h => by omega)⟩
          unfold printL
          rw [if_neg (by omega), HF.out]
      · have dk : (k != 0) = true := by simp [hk0]
        obtain ⟨q, hq, hkq⟩ := tmod_case k
        have hq9 : q ≤ 9 := by omega
        have HQ := Lib.hid hq
        have hcv : ∀ w : World, (convert 89 9 (.slice (some ⟨w.heap.size, 0, none⟩) 1 1)).run Tryz.prog (w.alloc (.cells #[.int .u8 (48 + (q : Int))] 5)) = .ok (.string ⟨#[dig q]⟩) (w.alloc (.cells #[.int .u8 (48 + (q : Int))] 5)) := fun w => by
          have h := conv_one w (dig q)
          rwa [show ((dig q).toNat : Int) = 48 + (q : Int) by rw [dig_toNat]; omega] at h
        clear hq
        rcases hkq with e | ⟨e, hq0⟩
        · have dn : decide ((q : Int) < 0) = false := by rw [decide_eq_false_iff_not]; omega
          go_wp2
          go_roundw
          case rel =>
            have ha := tdiv_abs k
            refine ⟨k.tdiv 10, _, rfl, rfl, by omega, by omega, by omega, ?_, HK.out.alloc _⟩
            rw [ha, ← HT.out, restD_step (n := k.natAbs) (by omega), show dig k.natAbs = dig q by rw [HQ.out]; unfold dig; rw [Nat.mod_mod]]
            simp
          case measure => (have ha := tdiv_abs k; simp only [intOf]; omega)
        · have dn : decide (-(q : Int) < 0) = true := by rw [decide_eq_true_eq]; omega
          go_wp2
          go_roundw
          case rel =>
            have ha := tdiv_abs k
            refine ⟨k.tdiv 10, _, rfl, rfl, by omega, by omega, by omega, ?_, HK.out.alloc _⟩
            rw [ha, ← HT.out, restD_step (n := k.natAbs) (by omega), show dig k.natAbs = dig q by rw [HQ.out]; unfold dig; rw [Nat.mod_mod]]
            simp
          case measure => (have ha := tdiv_abs k; simp only [intOf]; omega)
end Go.Proofs.YtcodbomgodkcmaaGreatDoor.Lin
