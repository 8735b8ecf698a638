/- Sorting in place: partitions. -/
import Derived.Test.YtdkigiemhkoijaaDoorSrtE
namespace Go.Proofs.YtdkigiemhkoijaaDoor.Ino
open Go.RowKit Go.Maps Go.Proofs.YtdkigiemhkoijaaDoor
set_option maxRecDepth 100000

/-- Two hands that come nearer. -/
structure HandR (w : World) (g : Nat) (t : TypeId) (a b : Nat) (iv jv : Value) (wr : World) : Prop where
  ex : ∃ i j : Nat, a + 1 ≤ i ∧ i ≤ b ∧ a ≤ j ∧ j < b ∧ iv = .int .i64 (i : Int) ∧ jv = .int .i64 (j : Int) ∧ SR w g t wr

structure LeftR (w : World) (g : Nat) (t : TypeId) (b i : Nat) (iv : Value) (wr : World) : Prop where
  ex : ∃ i' : Nat, i ≤ i' ∧ i' ≤ b ∧ iv = .int .i64 (i' : Int) ∧ SR w g t wr

structure RightR (w : World) (g : Nat) (t : TypeId) (a j : Nat) (jv : Value) (wr : World) : Prop where
  ex : ∃ j' : Nat, a ≤ j' ∧ j' ≤ j ∧ jv = .int .i64 (j' : Int) ∧ SR w g t wr

set_option maxHeartbeats 4000000 in
theorem parteq_any {w : World} {g : Nat} {t : TypeId} (h : SR w g t w) (a b p : Nat) (hab : a < b) (hb : b ≤ 203) (hp : p < 203) :
    Calls Tryd.prog 60 #[tabS g, .int .i64 (a : Int), .int .i64 (b : Int), .int .i64 (p : Int)] w fun e w' => (∃ m : Nat, e = .returned (.int .i64 (m : Int)) ∧ a < m ∧ m ≤ b) ∧ SR w g t w' := by
  obtain ⟨L, hL⟩ := h
  have hal : a < 203 := by omega
  have c1 := hL.cell hal
  have c2 := hL.cell hp
  have f1 := hL.free a
  have f2 := hL.free p
  have c3 := hL.cell2 hal hp
  have HSW : Hid (SR w g t _) := Lib.hid ⟨_, (hL.swap (i := a) (j := p) hal hp).drew⟩
  clear hL
  go_enter Tryd.func60, Tryd.ntmps60
  go_wp2
  go_region
  go_wp2
  generalize ((w.setCell ⟨g, a, none⟩ (.int .u32 ((tg L p : Nat) : Int))).setCell ⟨g, p, none⟩ (.int .u32 ((tg L a : Nat) : Int))).drew = w0 at *
  have e1 : (b : Int) - 1 = ((b - 1 : Nat) : Int) := by omega
  rw [e1]
  clear c1 c2 c3 f1 f2 e1
  go_loopw [9, 10] (fun iv jv wr => HandR w g t a b iv jv wr) (fun iv jv _ => (b - (intOf iv).toNat) + (intOf jv).toNat)
  case atStart => exact ⟨a + 1, b - 1, by omega, by omega, by omega, by omega, by go_num, rfl, HSW.out⟩
  case round =>
    obtain ⟨i, j, hi1, hi2, hj1, hj2, rfl, rfl, hS⟩ := hrel.ex
    have HS := Lib.hid hS
    clear hS hrel
    go_wp2
    obtain ⟨wz, hwz⟩ : ∃ wz, wz = wr := ⟨wr, rfl⟩
    subst wr
    go_loopw [9] (fun iv wr => LeftR w g t b i iv wr) (fun iv _ => b - (intOf iv).toNat)
    case atStart => exact ⟨i, by omega, hi2, rfl, HS.out⟩
    case round =>
      obtain ⟨i1, hi3, hi4, rfl, L1, hL⟩ := hrel.ex
      clear hrel HS
      by_cases hle : i1 ≤ j
      · have hd : decide (i1 ≤ j) = true := by rw [decide_eq_true_eq]; exact hle
        have il : i1 < 203 := by omega
        have c1 := hL.cell hal
        have c2 := hL.cell il
        have HL : Hid (∀ n, SR w g t (wr.drewN n)) := Lib.hid (fun n => ⟨_, hL.drewN n⟩)
        clear hL
        cases hless : decide (tg L1 a < tg L1 i1)
        · go_wp2
          go_quiet (first | (go_at_call 59; refine Calls.quiet_of_same (less_v hless _)))
          have HL2 := Lib.hid (HL.out nq)
          clear c1 c2 HL
          generalize wr.drewN nq = wq at *
          go_wp2
          go_roundw
          case rel => exact ⟨i1 + 1, by omega, by omega, by go_num, HL2.out⟩
          case measure => first | (simp [intOf]; done) | (simp [intOf]; omega)
        · go_wp2
          go_quiet (first | (go_at_call 59; refine Calls.quiet_of_same (less_v hless _)))
          have HL2 := Lib.hid (HL.out nq)
          clear c1 c2 HL
          generalize wr.drewN nq = wq at *
          go_wp2
          clear hless hd
          obtain ⟨wy, hwy⟩ : ∃ wy, wy = wq := ⟨wq, rfl⟩
          subst wq
          go_loopw [10] (fun jv wr => RightR w g t a j jv wr) (fun jv _ => (intOf jv).toNat)
          case atStart => exact ⟨j, hj1, by omega, rfl, HL2.out⟩
          case round =>
            obtain ⟨j1, hj3, hj4, rfl, L2, hL⟩ := hrel.ex
            clear hrel HL2
            by_cases hle2 : i1 ≤ j1
            · have hd2 : decide (i1 ≤ j1) = true := by rw [decide_eq_true_eq]; exact hle2
              have jl : j1 < 203 := by omega
              have c1 := hL.cell hal
              have c2 := hL.cell jl
              have HL : Hid (∀ n, SR w g t (wr.drewN n)) := Lib.hid (fun n => ⟨_, hL.drewN n⟩)
              clear hL
              cases hless : decide (tg L2 a < tg L2 j1)
              · go_wp2
                go_quiet (first | (go_at_call 59; refine Calls.quiet_of_same (less_v hless _)))
                have HL2 := Lib.hid (HL.out nq)
                clear c1 c2 HL
                generalize wr.drewN nq = wq at *
                clear hless
                by_cases hfin : j1 < i1
                · have hd3 : decide (j1 < i1) = true := by rw [decide_eq_true_eq]; exact hfin
                  go_wp2
                  go_ret
                  exact ⟨⟨i1, rfl, by omega, by omega⟩, HL2.out⟩
                · have hd3 : decide (j1 < i1) = false := by rw [decide_eq_false_iff_not]; exact hfin
                  obtain ⟨L3, hL3⟩ := HL2.out
                  have il3 : i1 < 203 := by omega
                  have jl3 : j1 < 203 := by omega
                  have c1 := hL3.cell il3
                  have c2 := hL3.cell jl3
                  have f1 := hL3.free i1
                  have f2 := hL3.free j1
                  have c3 := hL3.cell2 il3 jl3
                  have HSW3 : Hid (SR w g t _) := Lib.hid ⟨_, (hL3.swap (i := i1) (j := j1) il3 jl3).drew⟩
                  have HB := Lib.hid (And.intro hfin (And.intro hi1 (And.intro hi2 (And.intro hj1 (And.intro hj2 (And.intro hi3 (And.intro hi4 (And.intro hj3 hj4))))))))
                  clear hL3 HL2 hi1 hi2 hj1 hj2 hi3 hi4 hj3 hj4
                  go_wp2
                  clear hd3 hfin
                  try clear hle2 hd2
                  try clear hle
                  go_region
                  all_goals go_wp2
                  all_goals
                    have hB := HB.out
                    go_roundw
                    case rel => exact ⟨i1 + 1, j1 - 1, by omega, by omega, by omega, by omega, by go_num, by congr 1; omega, HSW3.out⟩
                    case measure => first | (simp [intOf]; done) | (simp [intOf]; omega)
              · go_wp2
                go_quiet (first | (go_at_call 59; refine Calls.quiet_of_same (less_v hless _)))
                have HL2 := Lib.hid (HL.out nq)
                clear c1 c2 HL
                generalize wr.drewN nq = wq at *
                go_wp2
                go_roundw
                case rel => exact ⟨j1 - 1, by omega, by omega, by congr 1; omega, HL2.out⟩
                case measure => first | (simp [intOf]; done) | (simp [intOf]; omega)
            · have hd2 : decide (i1 ≤ j1) = false := by rw [decide_eq_false_iff_not]; exact hle2
              have HL : Hid (∀ n, SR w g t (wr.drewN n)) := Lib.hid (fun n => ⟨_, hL.drewN n⟩)
              clear hL
              go_wp2
              go_quiet (fail)
              have HL2 := Lib.hid (HL.out nq)
              clear HL
              generalize wr.drewN nq = wq at *
              by_cases hfin : j1 < i1
              · have hd3 : decide (j1 < i1) = true := by rw [decide_eq_true_eq]; exact hfin
                go_wp2
                go_ret
                exact ⟨⟨i1, rfl, by omega, by omega⟩, HL2.out⟩
              · have hd3 : decide (j1 < i1) = false := by rw [decide_eq_false_iff_not]; exact hfin
                obtain ⟨L3, hL3⟩ := HL2.out
                have il3 : i1 < 203 := by omega
                have jl3 : j1 < 203 := by omega
                have c1 := hL3.cell il3
                have c2 := hL3.cell jl3
                have f1 := hL3.free i1
                have f2 := hL3.free j1
                have c3 := hL3.cell2 il3 jl3
                have HSW3 : Hid (SR w g t _) := Lib.hid ⟨_, (hL3.swap (i := i1) (j := j1) il3 jl3).drew⟩
                have HB := Lib.hid (And.intro hfin (And.intro hi1 (And.intro hi2 (And.intro hj1 (And.intro hj2 (And.intro hi3 (And.intro hi4 (And.intro hj3 hj4))))))))
                clear hL3 HL2 hi1 hi2 hj1 hj2 hi3 hi4 hj3 hj4
                go_wp2
                clear hd3 hfin
                try clear hle2 hd2
                try clear hle
                go_region
                all_goals go_wp2
                all_goals
                  have hB := HB.out
                  go_roundw
                  case rel => exact ⟨i1 + 1, j1 - 1, by omega, by omega, by omega, by omega, by go_num, by congr 1; omega, HSW3.out⟩
                  case measure => first | (simp [intOf]; done) | (simp [intOf]; omega)
      · have hd : decide (i1 ≤ j) = false := by rw [decide_eq_false_iff_not]; exact hle
        have HL : Hid (∀ n, SR w g t (wr.drewN n)) := Lib.hid (fun n => ⟨_, hL.drewN n⟩)
        clear hL
        go_wp2
        go_quiet (fail)
        have HL2 := Lib.hid (HL.out nq)
        clear hd HL
        generalize wr.drewN nq = wq at *
        go_wp2
        obtain ⟨wy, hwy⟩ : ∃ wy, wy = wq := ⟨wq, rfl⟩
        subst wq
        go_loopw [10] (fun jv wr => RightR w g t a j jv wr) (fun jv _ => (intOf jv).toNat)
        case atStart => exact ⟨j, hj1, by omega, rfl, HL2.out⟩
        case round =>
          obtain ⟨j1, hj3, hj4, rfl, L2, hL⟩ := hrel.ex
          clear hrel HL2
          by_cases hle2 : i1 ≤ j1
          · have hd2 : decide (i1 ≤ j1) = true := by rw [decide_eq_true_eq]; exact hle2
            have jl : j1 < 203 := by omega
            have c1 := hL.cell hal
            have c2 := hL.cell jl
            have HL : Hid (∀ n, SR w g t (wr.drewN n)) := Lib.hid (fun n => ⟨_, hL.drewN n⟩)
            clear hL
            cases hless : decide (tg L2 a < tg L2 j1)
            · go_wp2
              go_quiet (first | (go_at_call 59; refine Calls.quiet_of_same (less_v hless _)))
              have HL2 := Lib.hid (HL.out nq)
              clear c1 c2 HL
              generalize wr.drewN nq = wq at *
              clear hless
              by_cases hfin : j1 < i1
              · have hd3 : decide (j1 < i1) = true := by rw [decide_eq_true_eq]; exact hfin
                go_wp2
                go_ret
                exact ⟨⟨i1, rfl, by omega, by omega⟩, HL2.out⟩
              · have hd3 : decide (j1 < i1) = false := by rw [decide_eq_false_iff_not]; exact hfin
                obtain ⟨L3, hL3⟩ := HL2.out
                have il3 : i1 < 203 := by omega
                have jl3 : j1 < 203 := by omega
                have c1 := hL3.cell il3
                have c2 := hL3.cell jl3
                have f1 := hL3.free i1
                have f2 := hL3.free j1
                have c3 := hL3.cell2 il3 jl3
                have HSW3 : Hid (SR w g t _) := Lib.hid ⟨_, (hL3.swap (i := i1) (j := j1) il3 jl3).drew⟩
                have HB := Lib.hid (And.intro hfin (And.intro hi1 (And.intro hi2 (And.intro hj1 (And.intro hj2 (And.intro hi3 (And.intro hi4 (And.intro hj3 hj4))))))))
                clear hL3 HL2 hi1 hi2 hj1 hj2 hi3 hi4 hj3 hj4
                go_wp2
                clear hd3 hfin
                try clear hle2 hd2
                try clear hle
                go_region
                all_goals go_wp2
                all_goals
                  have hB := HB.out
                  go_roundw
                  case rel => exact ⟨i1 + 1, j1 - 1, by omega, by omega, by omega, by omega, by go_num, by congr 1; omega, HSW3.out⟩
                  case measure => first | (simp [intOf]; done) | (simp [intOf]; omega)
            · go_wp2
              go_quiet (first | (go_at_call 59; refine Calls.quiet_of_same (less_v hless _)))
              have HL2 := Lib.hid (HL.out nq)
              clear c1 c2 HL
              generalize wr.drewN nq = wq at *
              go_wp2
              go_roundw
              case rel => exact ⟨j1 - 1, by omega, by omega, by congr 1; omega, HL2.out⟩
              case measure => first | (simp [intOf]; done) | (simp [intOf]; omega)
          · have hd2 : decide (i1 ≤ j1) = false := by rw [decide_eq_false_iff_not]; exact hle2
            have HL : Hid (∀ n, SR w g t (wr.drewN n)) := Lib.hid (fun n => ⟨_, hL.drewN n⟩)
            clear hL
            go_wp2
            go_quiet (fail)
            have HL2 := Lib.hid (HL.out nq)
            clear HL
            generalize wr.drewN nq = wq at *
            by_cases hfin : j1 < i1
            · have hd3 : decide (j1 < i1) = true := by rw [decide_eq_true_eq]; exact hfin
              go_wp2
              go_ret
              exact ⟨⟨i1, rfl, by omega, by omega⟩, HL2.out⟩
            · have hd3 : decide (j1 < i1) = false := by rw [decide_eq_false_iff_not]; exact hfin
              obtain ⟨L3, hL3⟩ := HL2.out
              have il3 : i1 < 203 := by omega
              have jl3 : j1 < 203 := by omega
              have c1 := hL3.cell il3
              have c2 := hL3.cell jl3
              have f1 := hL3.free i1
              have f2 := hL3.free j1
              have c3 := hL3.cell2 il3 jl3
              have HSW3 : Hid (SR w g t _) := Lib.hid ⟨_, (hL3.swap (i := i1) (j := j1) il3 jl3).drew⟩
              have HB := Lib.hid (And.intro hfin (And.intro hi1 (And.intro hi2 (And.intro hj1 (And.intro hj2 (And.intro hi3 (And.intro hi4 (And.intro hj3 hj4))))))))
              clear hL3 HL2 hi1 hi2 hj1 hj2 hi3 hi4 hj3 hj4
              go_wp2
              clear hd3 hfin
              try clear hle2 hd2
              try clear hle
              go_region
              all_goals go_wp2
              all_goals
                have hB := HB.out
                go_roundw
                case rel => exact ⟨i1 + 1, j1 - 1, by omega, by omega, by omega, by omega, by go_num, by congr 1; omega, HSW3.out⟩
                case measure => first | (simp [intOf]; done) | (simp [intOf]; omega)

end Go.Proofs.YtdkigiemhkoijaaDoor.Ino
