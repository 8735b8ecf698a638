/- Sorting in place: a range that is nearly sorted. -/
import Derived.Test.YtdkigiemhkoijaaDoorSrtF
namespace Go.Proofs.YtdkigiemhkoijaaDoor.Ino
open Go.RowKit Go.Maps Go.Proofs.YtdkigiemhkoijaaDoor
set_option maxRecDepth 100000

structure ParO (w : World) (g : Nat) (t : TypeId) (a b : Nat) (iv jv : Value) (wr : World) : Prop where
  ex : ∃ i j : Nat, a + 1 ≤ i ∧ i ≤ b ∧ j ≤ 5 ∧ iv = .int .i64 (i : Int) ∧ jv = .int .i64 (j : Int) ∧ SR w g t wr

set_option maxHeartbeats 4000000 in
theorem partial_any {w : World} {g : Nat} {t : TypeId} (h : SR w g t w) (a b : Nat) (hab : a < b) (hb : b ≤ 203) :
    Calls Tryd.prog 58 #[tabS g, .int .i64 (a : Int), .int .i64 (b : Int)] w fun e w' => (∃ al : Bool, e = .returned (.bool al)) ∧ SR w g t w' := by
  have H := Lib.hid h
  clear h
  go_enter Tryd.func58, Tryd.ntmps58
  go_wp2
  go_loopw [7, 8] (fun iv jv wr => ParO w g t a b iv jv wr) (fun _ jv _ => 5 - (intOf jv).toNat)
  case atStart => exact ⟨a + 1, 0, by omega, by omega, by omega, by go_num, rfl, H.out⟩
  case round =>
    obtain ⟨i, jo, hi1, hi2, hjo, rfl, rfl, hS⟩ := hrel.ex
    have HS := Lib.hid hS
    clear hS hrel H
    by_cases hj5 : jo < 5
    · have hd5 : decide (jo < 5) = true := by rw [decide_eq_true_eq]; exact hj5
      have hd6 : decide ((jo : Int) < 5) = true := by rw [decide_eq_true_eq]; omega
      go_wp2
      obtain ⟨wz, hwz⟩ : ∃ wz, wz = wr := ⟨wr, rfl⟩
      subst wr
      go_loopw [7] (fun iv wr => LeftR w g t b i iv wr) (fun iv _ => b - (intOf iv).toNat)
      case atStart => exact ⟨i, by omega, hi2, rfl, HS.out⟩
      case round =>
        obtain ⟨i1, hi3, hi4, rfl, L1, hL⟩ := hrel.ex
        clear hrel HS
        by_cases hle : i1 < b
        · have hd : decide (i1 < b) = true := by rw [decide_eq_true_eq]; exact hle
          obtain ⟨k1, hk1⟩ : ∃ k1, k1 = i1 - 1 := ⟨_, rfl⟩
          have e1 : (i1 : Int) - 1 = (k1 : Int) := by omega
          have il : i1 < 203 := by omega
          have kl : k1 < 203 := by omega
          have c1 := hL.cell il
          have c2 := hL.cell kl
          have HB := Lib.hid (And.intro hk1 (And.intro hle (And.intro hi1 (And.intro hi3 (And.intro hj5 hb)))))
          clear hk1
          cases hless : decide (tg L1 i1 < tg L1 k1)
          · have HL : Hid (∀ n, SR w g t (wr.drewN n)) := Lib.hid (fun n => ⟨_, hL.drewN n⟩)
            clear hL
            go_wp2
            go_quiet (first | (go_at_call 59; refine Calls.quiet_of_same (less_v hless _)))
            have HL2 := Lib.hid (HL.out nq)
            clear c1 c2 HL hless
            generalize wr.drewN nq = wq at *
            go_wp2
            go_roundw
            case rel => exact ⟨i1 + 1, by omega, by omega, by go_num, HL2.out⟩
            case measure => first | (simp [intOf]; done) | (simp [intOf]; omega)
          · go_wp2
            go_quiet (first | (go_at_call 59; refine Calls.quiet_of_same (less_v hless _)))
            replace hL := hL.drewN nq
            clear c1 c2 hless
            generalize wr.drewN nq = wq at *
            have c1 := hL.cell il
            have c2 := hL.cell kl
            have f1 := hL.free i1
            have f2 := hL.free k1
            have c3 := hL.cell2 il kl
            have HSW : Hid (SR w g t _) := Lib.hid ⟨_, (hL.swap (i := i1) (j := k1) il kl).drew⟩
            have HL : Hid (SR w g t wq) := Lib.hid ⟨_, hL⟩
            clear hL
            have hne1 : ¬ (i1 : Int) = (b : Int) := by omega
            have hne2 : ¬ i1 = b := by omega
            obtain ⟨l1, hl1⟩ : ∃ l1, l1 = b - a := ⟨_, rfl⟩
            have e3 : (b : Int) - (a : Int) = (l1 : Int) := by omega
            obtain ⟨m1, hm1⟩ : ∃ m1, m1 = i1 - a := ⟨_, rfl⟩
            have e4 : (i1 : Int) - (a : Int) = (m1 : Int) := by omega
            obtain ⟨n1, hn1⟩ : ∃ n1, n1 = b - i1 := ⟨_, rfl⟩
            have e5 : (b : Int) - (i1 : Int) = (n1 : Int) := by omega
            clear hl1 hm1 hn1
            by_cases h50 : l1 < 50
            · have d50 : decide ((l1 : Int) < 50) = true := by rw [decide_eq_true_eq]; omega
              go_wp2
              go_ret
              exact ⟨⟨_, rfl⟩, HL.out⟩
            · have d50 : decide ((l1 : Int) < 50) = false := by rw [decide_eq_false_iff_not]; omega
              by_cases hmi : 2 ≤ m1
              · go_wp2
                go_region
                all_goals go_wp2
                all_goals try (exfalso; omega)
                have HS9 := HSW
                clear c1 c2 c3 f1 f2 HSW HL
                generalize ((wq.setCell ⟨g, i1, none⟩ (.int .u32 ((tg L1 k1 : Nat) : Int))).setCell ⟨g, k1, none⟩ (.int .u32 ((tg L1 i1 : Nat) : Int))).drew = wp at *
                obtain ⟨wq, hwq⟩ : ∃ wq, wq = wp := ⟨wp, rfl⟩
                subst wp
                obtain ⟨wy, hwy⟩ : ∃ wy, wy = wq := ⟨wq, rfl⟩
                subst wq
                go_loopw [9] (fun jv wr => RightR w g t 0 k1 jv wr) (fun jv _ => (intOf jv).toNat)
                case atStart => exact ⟨k1, by omega, by have := HB.out; omega, rfl, HS9.out⟩
                case round =>
                  obtain ⟨j2, _, hj2, rfl, L2, hL⟩ := hrel.ex
                  clear hrel HS9
                  by_cases hc : 1 ≤ j2
                  · have hcd : decide (1 ≤ j2) = true := by rw [decide_eq_true_eq]; exact hc
                    obtain ⟨k2, hk2⟩ : ∃ k2, k2 = j2 - 1 := ⟨_, rfl⟩
                    have e2 : (j2 : Int) - 1 = (k2 : Int) := by have := HB.out; omega
                    have jl : j2 < 203 := by have := HB.out; omega
                    have kl : k2 < 203 := by omega
                    have c1 := hL.cell jl
                    have c2 := hL.cell kl
                    have f1 := hL.free j2
                    have f2 := hL.free k2
                    have c3 := hL.cell2 jl kl
                    have HJK := Lib.hid (And.intro hk2 (And.intro hj2 hc))
                    clear hk2 hj2
                    cases hless : decide (tg L2 j2 < tg L2 k2)
                    · have HL : Hid (∀ n, SR w g t (wr.drewN n)) := Lib.hid (fun n => ⟨_, hL.drewN n⟩)
                      clear hL c3
                      go_wp2
                      go_quiet (first | (go_at_call 59; refine Calls.quiet_of_same (less_v hless _)))
                      have HS9 := Lib.hid (HL.out nq)
                      clear c1 c2 f1 f2 HL hless
                      try clear hc hcd
                      generalize wr.drewN nq = wq at *
                      by_cases hbi : 2 ≤ n1
                      · go_wp2
                        all_goals try (exfalso; omega)
                        obtain ⟨wy, hwy⟩ : ∃ wy, wy = wq := ⟨wq, rfl⟩
                        subst wq
                        go_loopw [10] (fun jv wr => RightR w g t 1 203 jv wr) (fun jv _ => 300 - (intOf jv).toNat)
                        case atStart => exact ⟨i1 + 1, by omega, by have := HB.out; omega, by go_num, HS9.out⟩
                        case round =>
                          obtain ⟨j2, _, hj2, rfl, L2, hL⟩ := hrel.ex
                          clear hrel HS9
                          by_cases hc : j2 < b
                          · have hcd : decide (j2 < b) = true := by rw [decide_eq_true_eq]; exact hc
                            obtain ⟨k2, hk2⟩ : ∃ k2, k2 = j2 - 1 := ⟨_, rfl⟩
                            have e2 : (j2 : Int) - 1 = (k2 : Int) := by have := HB.out; omega
                            have jl : j2 < 203 := by have := HB.out; omega
                            have kl : k2 < 203 := by omega
                            have c1 := hL.cell jl
                            have c2 := hL.cell kl
                            have f1 := hL.free j2
                            have f2 := hL.free k2
                            have c3 := hL.cell2 jl kl
                            have HJK := Lib.hid (And.intro hk2 (And.intro hj2 hc))
                            clear hk2 hj2
                            cases hless : decide (tg L2 j2 < tg L2 k2)
                            · have HL : Hid (∀ n, SR w g t (wr.drewN n)) := Lib.hid (fun n => ⟨_, hL.drewN n⟩)
                              clear hL c3
                              go_wp2
                              go_quiet (first | (go_at_call 59; refine Calls.quiet_of_same (less_v hless _)))
                              have HS9 := Lib.hid (HL.out nq)
                              clear c1 c2 f1 f2 HL hless
                              try clear hc hcd
                              generalize wr.drewN nq = wq at *
                              go_wp2
                              go_roundw
                              case rel => exact ⟨i1, jo + 1, by have := HB.out; omega, by have := HB.out; omega, by have := HB.out; omega, rfl, by go_num, HS9.out⟩
                              case measure => first | (simp [intOf]; done) | (simp [intOf]; have := HB.out; omega)
                            · go_wp2
                              go_quiet (first | (go_at_call 59; refine Calls.quiet_of_same (less_v hless _)))
                              replace hL := hL.drewN nq
                              clear c1 c2 c3 f1 f2 hless
                              generalize wr.drewN nq = wq at *
                              have c1 := hL.cell jl
                              have c2 := hL.cell kl
                              have f1 := hL.free j2
                              have f2 := hL.free k2
                              have c3 := hL.cell2 jl kl
                              have HSW : Hid (SR w g t _) := Lib.hid ⟨_, (hL.swap (i := j2) (j := k2) jl kl).drew⟩
                              clear hL
                              try clear hc hcd
                              go_wp2
                              go_region
                              all_goals go_wp2
                              all_goals
                                have hJK := HJK.out
                                go_roundw
                                case rel => exact ⟨j2 + 1, by omega, by have := HB.out; omega, by go_num, HSW.out⟩
                                case measure => first | (simp [intOf]; done) | (simp [intOf]; omega)
                          · have hcd : decide (j2 < b) = false := by rw [decide_eq_false_iff_not]; exact hc
                            have HS9 : Hid (SR w g t wr) := Lib.hid ⟨_, hL⟩
                            clear hL
                            obtain ⟨wq, hwq⟩ : ∃ wq, wq = wr := ⟨wr, rfl⟩
                            subst wr
                            go_wp2
                            go_roundw
                            case rel => exact ⟨i1, jo + 1, by have := HB.out; omega, by have := HB.out; omega, by have := HB.out; omega, rfl, by go_num, HS9.out⟩
                            case measure => first | (simp [intOf]; done) | (simp [intOf]; have := HB.out; omega)
                      · go_wp2
                        all_goals try (exfalso; omega)
                        go_roundw
                        case rel => exact ⟨i1, jo + 1, by have := HB.out; omega, by have := HB.out; omega, by have := HB.out; omega, rfl, by go_num, HS9.out⟩
                        case measure => first | (simp [intOf]; done) | (simp [intOf]; have := HB.out; omega)
                    · go_wp2
                      go_quiet (first | (go_at_call 59; refine Calls.quiet_of_same (less_v hless _)))
                      replace hL := hL.drewN nq
                      clear c1 c2 c3 f1 f2 hless
                      generalize wr.drewN nq = wq at *
                      have c1 := hL.cell jl
                      have c2 := hL.cell kl
                      have f1 := hL.free j2
                      have f2 := hL.free k2
                      have c3 := hL.cell2 jl kl
                      have HSW : Hid (SR w g t _) := Lib.hid ⟨_, (hL.swap (i := j2) (j := k2) jl kl).drew⟩
                      clear hL
                      try clear hc hcd
                      go_wp2
                      go_region
                      all_goals go_wp2
                      all_goals
                        have hJK := HJK.out
                        go_roundw
                        case rel => exact ⟨k2, by omega, by have := HB.out; omega, rfl, HSW.out⟩
                        case measure => first | (simp [intOf]; done) | (simp [intOf]; omega)
                  · have hcd : decide (1 ≤ j2) = false := by rw [decide_eq_false_iff_not]; exact hc
                    have HS9 : Hid (SR w g t wr) := Lib.hid ⟨_, hL⟩
                    clear hL
                    obtain ⟨wq, hwq⟩ : ∃ wq, wq = wr := ⟨wr, rfl⟩
                    subst wr
                    by_cases hbi : 2 ≤ n1
                    · go_wp2
                      all_goals try (exfalso; omega)
                      obtain ⟨wy, hwy⟩ : ∃ wy, wy = wq := ⟨wq, rfl⟩
                      subst wq
                      go_loopw [10] (fun jv wr => RightR w g t 1 203 jv wr) (fun jv _ => 300 - (intOf jv).toNat)
                      case atStart => exact ⟨i1 + 1, by omega, by have := HB.out; omega, by go_num, HS9.out⟩
                      case round =>
                        obtain ⟨j2, _, hj2, rfl, L2, hL⟩ := hrel.ex
                        clear hrel HS9
                        by_cases hc : j2 < b
                        · have hcd : decide (j2 < b) = true := by rw [decide_eq_true_eq]; exact hc
                          obtain ⟨k2, hk2⟩ : ∃ k2, k2 = j2 - 1 := ⟨_, rfl⟩
                          have e2 : (j2 : Int) - 1 = (k2 : Int) := by have := HB.out; omega
                          have jl : j2 < 203 := by have := HB.out; omega
                          have kl : k2 < 203 := by omega
                          have c1 := hL.cell jl
                          have c2 := hL.cell kl
                          have f1 := hL.free j2
                          have f2 := hL.free k2
                          have c3 := hL.cell2 jl kl
                          have HJK := Lib.hid (And.intro hk2 (And.intro hj2 hc))
                          clear hk2 hj2
                          cases hless : decide (tg L2 j2 < tg L2 k2)
                          · have HL : Hid (∀ n, SR w g t (wr.drewN n)) := Lib.hid (fun n => ⟨_, hL.drewN n⟩)
                            clear hL c3
                            go_wp2
                            go_quiet (first | (go_at_call 59; refine Calls.quiet_of_same (less_v hless _)))
                            have HS9 := Lib.hid (HL.out nq)
                            clear c1 c2 f1 f2 HL hless
                            try clear hc hcd
                            generalize wr.drewN nq = wq at *
                            go_wp2
                            go_roundw
                            case rel => exact ⟨i1, jo + 1, by have := HB.out; omega, by have := HB.out; omega, by have := HB.out; omega, rfl, by go_num, HS9.out⟩
                            case measure => first | (simp [intOf]; done) | (simp [intOf]; have := HB.out; omega)
                          · go_wp2
                            go_quiet (first | (go_at_call 59; refine Calls.quiet_of_same (less_v hless _)))
                            replace hL := hL.drewN nq
                            clear c1 c2 c3 f1 f2 hless
                            generalize wr.drewN nq = wq at *
                            have c1 := hL.cell jl
                            have c2 := hL.cell kl
                            have f1 := hL.free j2
                            have f2 := hL.free k2
                            have c3 := hL.cell2 jl kl
                            have HSW : Hid (SR w g t _) := Lib.hid ⟨_, (hL.swap (i := j2) (j := k2) jl kl).drew⟩
                            clear hL
                            try clear hc hcd
                            go_wp2
                            go_region
                            all_goals go_wp2
                            all_goals
                              have hJK := HJK.out
                              go_roundw
                              case rel => exact ⟨j2 + 1, by omega, by have := HB.out; omega, by go_num, HSW.out⟩
                              case measure => first | (simp [intOf]; done) | (simp [intOf]; omega)
                        · have hcd : decide (j2 < b) = false := by rw [decide_eq_false_iff_not]; exact hc
                          have HS9 : Hid (SR w g t wr) := Lib.hid ⟨_, hL⟩
                          clear hL
                          obtain ⟨wq, hwq⟩ : ∃ wq, wq = wr := ⟨wr, rfl⟩
                          subst wr
                          go_wp2
                          go_roundw
                          case rel => exact ⟨i1, jo + 1, by have := HB.out; omega, by have := HB.out; omega, by have := HB.out; omega, rfl, by go_num, HS9.out⟩
                          case measure => first | (simp [intOf]; done) | (simp [intOf]; have := HB.out; omega)
                    · go_wp2
                      all_goals try (exfalso; omega)
                      go_roundw
                      case rel => exact ⟨i1, jo + 1, by have := HB.out; omega, by have := HB.out; omega, by have := HB.out; omega, rfl, by go_num, HS9.out⟩
                      case measure => first | (simp [intOf]; done) | (simp [intOf]; have := HB.out; omega)
              · by_cases hbi : 2 ≤ n1
                · go_wp2
                  go_region
                  all_goals go_wp2
                  all_goals try (exfalso; omega)
                  have HS9 := HSW
                  clear c1 c2 c3 f1 f2 HSW HL
                  generalize ((wq.setCell ⟨g, i1, none⟩ (.int .u32 ((tg L1 k1 : Nat) : Int))).setCell ⟨g, k1, none⟩ (.int .u32 ((tg L1 i1 : Nat) : Int))).drew = wp at *
                  obtain ⟨wq, hwq⟩ : ∃ wq, wq = wp := ⟨wp, rfl⟩
                  subst wp
                  obtain ⟨wy, hwy⟩ : ∃ wy, wy = wq := ⟨wq, rfl⟩
                  subst wq
                  go_loopw [10] (fun jv wr => RightR w g t 1 203 jv wr) (fun jv _ => 300 - (intOf jv).toNat)
                  case atStart => exact ⟨i1 + 1, by omega, by have := HB.out; omega, by go_num, HS9.out⟩
                  case round =>
                    obtain ⟨j2, _, hj2, rfl, L2, hL⟩ := hrel.ex
                    clear hrel HS9
                    by_cases hc : j2 < b
                    · have hcd : decide (j2 < b) = true := by rw [decide_eq_true_eq]; exact hc
                      obtain ⟨k2, hk2⟩ : ∃ k2, k2 = j2 - 1 := ⟨_, rfl⟩
                      have e2 : (j2 : Int) - 1 = (k2 : Int) := by have := HB.out; omega
                      have jl : j2 < 203 := by have := HB.out; omega
                      have kl : k2 < 203 := by omega
                      have c1 := hL.cell jl
                      have c2 := hL.cell kl
                      have f1 := hL.free j2
                      have f2 := hL.free k2
                      have c3 := hL.cell2 jl kl
                      have HJK := Lib.hid (And.intro hk2 (And.intro hj2 hc))
                      clear hk2 hj2
                      cases hless : decide (tg L2 j2 < tg L2 k2)
                      · have HL : Hid (∀ n, SR w g t (wr.drewN n)) := Lib.hid (fun n => ⟨_, hL.drewN n⟩)
                        clear hL c3
                        go_wp2
                        go_quiet (first | (go_at_call 59; refine Calls.quiet_of_same (less_v hless _)))
                        have HS9 := Lib.hid (HL.out nq)
                        clear c1 c2 f1 f2 HL hless
                        try clear hc hcd
                        generalize wr.drewN nq = wq at *
                        go_wp2
                        go_roundw
                        case rel => exact ⟨i1, jo + 1, by have := HB.out; omega, by have := HB.out; omega, by have := HB.out; omega, rfl, by go_num, HS9.out⟩
                        case measure => first | (simp [intOf]; done) | (simp [intOf]; have := HB.out; omega)
                      · go_wp2
                        go_quiet (first | (go_at_call 59; refine Calls.quiet_of_same (less_v hless _)))
                        replace hL := hL.drewN nq
                        clear c1 c2 c3 f1 f2 hless
                        generalize wr.drewN nq = wq at *
                        have c1 := hL.cell jl
                        have c2 := hL.cell kl
                        have f1 := hL.free j2
                        have f2 := hL.free k2
                        have c3 := hL.cell2 jl kl
                        have HSW : Hid (SR w g t _) := Lib.hid ⟨_, (hL.swap (i := j2) (j := k2) jl kl).drew⟩
                        clear hL
                        try clear hc hcd
                        go_wp2
                        go_region
                        all_goals go_wp2
                        all_goals
                          have hJK := HJK.out
                          go_roundw
                          case rel => exact ⟨j2 + 1, by omega, by have := HB.out; omega, by go_num, HSW.out⟩
                          case measure => first | (simp [intOf]; done) | (simp [intOf]; omega)
                    · have hcd : decide (j2 < b) = false := by rw [decide_eq_false_iff_not]; exact hc
                      have HS9 : Hid (SR w g t wr) := Lib.hid ⟨_, hL⟩
                      clear hL
                      obtain ⟨wq, hwq⟩ : ∃ wq, wq = wr := ⟨wr, rfl⟩
                      subst wr
                      go_wp2
                      go_roundw
                      case rel => exact ⟨i1, jo + 1, by have := HB.out; omega, by have := HB.out; omega, by have := HB.out; omega, rfl, by go_num, HS9.out⟩
                      case measure => first | (simp [intOf]; done) | (simp [intOf]; have := HB.out; omega)
                · exfalso; omega
        · have hd : decide (i1 < b) = false := by rw [decide_eq_false_iff_not]; exact hle
          obtain rfl : i1 = b := by omega
          have hdd : ¬ (i1 : Int) < (i1 : Int) := by omega
          have HL : Hid (∀ n, SR w g t (wr.drewN n)) := Lib.hid (fun n => ⟨_, hL.drewN n⟩)
          clear hL
          go_wp2
          go_quiet (fail)
          go_wp2
          go_ret
          exact ⟨⟨_, rfl⟩, HL.out _⟩
    · have hd5 : decide (jo < 5) = false := by rw [decide_eq_false_iff_not]; exact hj5
      have hd6 : decide ((jo : Int) < 5) = false := by rw [decide_eq_false_iff_not]; omega
      go_wp2
      go_ret
      exact ⟨⟨_, rfl⟩, HS.out⟩

end Go.Proofs.YtdkigiemhkoijaaDoor.Ino
