/- Sorting in place: by insertion. -/
import Derived.Test.YtdkigiemhkoijaaDoorSrt
namespace Go.Proofs.YtdkigiemhkoijaaDoor.Ino
open Go.RowKit Go.Maps Go.Proofs.YtdkigiemhkoijaaDoor
set_option maxRecDepth 100000

/-- What a sorting function leaves. -/
def SR (w0 : World) (g : Nat) (t : TypeId) (wr : World) : Prop := ∃ L, Srt w0 g t L wr

abbrev tabS (g : Nat) : Value := .slice (some ⟨g, 0, none⟩) 203 203

structure InsO (w : World) (g : Nat) (t : TypeId) (a b : Nat) (iv : Value) (wr : World) : Prop where
  ex : ∃ i : Nat, a + 1 ≤ i ∧ i ≤ b + 1 ∧ iv = .int .i64 (i : Int) ∧ SR w g t wr

structure InsI (w : World) (g : Nat) (t : TypeId) (a i : Nat) (jv : Value) (wr : World) : Prop where
  ex : ∃ j : Nat, a ≤ j ∧ j ≤ i ∧ jv = .int .i64 (j : Int) ∧ SR w g t wr

theorem less_q {w : World} (x y : Nat) (nn : Nat) : Calls Tryd.prog 59 #[.int .u32 (x : Int), .int .u32 (y : Int)] (w.drewN nn) fun e w' => e = .returned (.bool (decide (x < y))) ∧ w' = w.drewN nn := by
  refine (less_any (w := w.drewN nn) x y).mono ?_
  rintro e w' ⟨rfl, rfl⟩
  exact ⟨by simp, rfl⟩

theorem ins_any {w : World} {g : Nat} {t : TypeId} (h : SR w g t w) (a b : Nat) (hab : a ≤ b) (hb : b ≤ 203) :
    Calls Tryd.prog 53 #[tabS g, .int .i64 (a : Int), .int .i64 (b : Int)] w fun e w' => e = .returned (.tuple #[]) ∧ SR w g t w' := by
  have H := Lib.hid h
  clear h
  go_enter Tryd.func53, Tryd.ntmps53
  go_wp2
  go_loopw [6] (fun iv wr => InsO w g t a b iv wr) (fun iv _ => b + 1 - (intOf iv).toNat)
  case atStart => exact ⟨a + 1, by omega, by omega, by go_num, H.out⟩
  case round =>
    obtain ⟨i, hi1, hi2, rfl, hS⟩ := hrel.ex
    have HS := Lib.hid hS
    clear hS
    by_cases hlt : i < b
    · have hd : decide (i < b) = true := by rw [decide_eq_true_eq]; omega
      go_wp2
      obtain ⟨wz, hwz⟩ : ∃ wz, wz = wr := ⟨wr, rfl⟩
      subst wr
      go_loopw [7] (fun jv wr => InsI w g t a i jv wr) (fun jv _ => (intOf jv).toNat)
      case atStart => exact ⟨i, by omega, by omega, rfl, HS.out⟩
      case round =>
        obtain ⟨j, hj1, hj2, rfl, L, hL⟩ := hrel.ex
        by_cases hja : a < j
        · have hd2 : decide (a < j) = true := by rw [decide_eq_true_eq]; omega
          have hd3 : decide ((a : Int) < (j : Int)) = true := by rw [decide_eq_true_eq]; omega
          obtain ⟨k, hk⟩ : ∃ k, j = k + 1 := ⟨j - 1, by omega⟩
          have c1 := hL.cell (i := j) (by omega)
          have c2 := hL.cell (i := k) (by omega)
          have f1 := hL.free j
          have f2 := hL.free k
          have e1 : (j : Int) - 1 = (k : Int) := by omega
          have HKJ := Lib.hid hk
          clear hk
          cases hless : decide (tg L j < tg L k)
          · go_wp2
            go_quiet (first | (go_at_call 59; refine Calls.quiet_of_same (less_q _ _ _)))
            have hL2 : SR w g t (wr.drewN nq) := ⟨L, hL.drewN nq⟩
            have HL2 := Lib.hid hL2
            clear hL hL2 c1 c2 f1 f2 hrel
            generalize wr.drewN nq = wq at *
            go_wp2
            go_roundw
            case rel => exact ⟨i + 1, by omega, by omega, by go_num, HL2.out⟩
            case measure => simp [intOf]; omega
          · go_wp2
            go_quiet (first | (go_at_call 59; refine Calls.quiet_of_same (less_q _ _ _)))
            have hL2 := hL.drewN nq
            clear hL c1 c2 f1 f2 hrel
            generalize wr.drewN nq = wq at *
            have c1 := hL2.cell (i := j) (by omega)
            have c2 := hL2.cell (i := k) (by have := HKJ.out; omega)
            have f1 := hL2.free j
            have f2 := hL2.free k
            have hsw := (hL2.swap (i := j) (j := k) (by omega) (by have := HKJ.out; omega)).drew
            have HSW := Lib.hid hsw
            clear hL2 hsw
            go_wp2
            go_region
            all_goals go_wp2
            all_goals
              go_roundw
              case rel => exact ⟨k, by have := HKJ.out; omega, by have := HKJ.out; omega, rfl, _, HSW.out⟩
              case measure => simp [intOf]; have := HKJ.out; omega
        · obtain rfl : j = a := by omega
          have hL2 : Hid (SR w g t wr) := Lib.hid ⟨L, hL⟩
          clear hL hrel
          have hd2 : ¬ (j : Int) < (j : Int) := by omega
          go_wp2
          go_quiet (fail)
          have HL2 : Hid (SR w g t (wr.drewN nq)) := Lib.hid (by obtain ⟨L, hL⟩ := hL2.out; exact ⟨L, hL.drewN nq⟩)
          generalize wr.drewN nq = wq at *
          go_wp2
          go_roundw
          case rel => exact ⟨i + 1, by omega, by omega, by go_num, HL2.out⟩
          case measure => simp [intOf]; omega
    · have hd : decide (i < b) = false := by rw [decide_eq_false_iff_not]; omega
      go_wp2
      go_end0
      exact ⟨rfl, HS.out⟩

end Go.Proofs.YtdkigiemhkoijaaDoor.Ino
