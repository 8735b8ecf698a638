/- Sorting in place: the whole. -/
import Derived.Test.YtdkigiemhkoijaaDoorSrtG
import Derived.Test.YtdkigiemhkoijaaDoorSrtH
import Derived.Test.YtdkigiemhkoijaaDoorSrtJ
namespace Go.Proofs.YtdkigiemhkoijaaDoor.Ino
open Go.RowKit Go.Maps Go.Proofs.YtdkigiemhkoijaaDoor
set_option maxRecDepth 100000

structure PdqR (w : World) (g : Nat) (t : TypeId) (a b : Nat) (av bv lv b1 b2 : Value) (wr : World) : Prop where
  ex : ∃ (a' b' lim : Nat) (bal part : Bool), a ≤ a' ∧ b' ≤ b ∧ a' ≤ b' ∧ lim ≤ 64 ∧ av = .int .i64 (a' : Int) ∧ bv = .int .i64 (b' : Int) ∧ lv = .int .i64 (lim : Int) ∧ b1 = .bool bal ∧ b2 = .bool part ∧ SR w g t wr

set_option maxHeartbeats 20000000 in
theorem pdq_any (g : Nat) (t : TypeId) : ∀ (n : Nat) {w : World} (_ : SR w g t w) (a b lim : Nat) (_ : a ≤ b) (_ : b ≤ 203) (_ : b - a ≤ n) (_ : lim ≤ 64),
    Calls Tryd.prog 48 #[tabS g, .int .i64 (a : Int), .int .i64 (b : Int), .int .i64 (lim : Int)] w fun e w' => e = .returned (.tuple #[]) ∧ SR w g t w' := by
  intro n
  induction n with
  | zero =>
    intro w h a b lim hab hb hn hl
    have H := Lib.hid h
    clear h
    go_enter Tryd.func48, Tryd.ntmps48
    go_wp2
    go_loopw [1, 2, 3, 8, 9] (fun av bv lv b1 b2 wr => PdqR w g t a b av bv lv b1 b2 wr) (fun av bv _ _ _ _ => (intOf bv).toNat - (intOf av).toNat)
    case atStart => exact ⟨a, b, lim, true, true, by omega, by omega, hab, hl, rfl, rfl, rfl, rfl, rfl, H.out⟩
    case round =>
      obtain ⟨a1, b1, lim1, bal, part, ha1, hb1, hab2, hlim, rfl, rfl, rfl, rfl, rfl, hS⟩ := hrel.ex
      have HS := Lib.hid hS
      clear hS hrel H
      obtain ⟨l, hle⟩ : ∃ l, l = b1 - a1 := ⟨_, rfl⟩
      have e1 : (b1 : Int) - (a1 : Int) = (l : Int) := by omega
      have h12 : l ≤ 12 := by omega
      have hd : decide ((l : Int) ≤ 12) = true := by rw [decide_eq_true_eq]; omega
      clear hle
      go_wp2_with (go_at_call 53; refine (ins_any HS.out.here a1 b1 (by omega) (by omega)).mono ?_; rintro e w1 ⟨rfl, s1⟩; have S1 := Lib.hid (HS.out.then s1); clear s1)
      all_goals try (exfalso; omega)
      refine bodyPost_ret (results_none rfl _ _ _) rfl ?_
      exact ⟨rfl, S1.out⟩
  | succ n ih =>
    intro w h a b lim hab hb hn hl
    have H := Lib.hid h
    have IH : Hid (∀ (w : World), SR w g t w → ∀ (a b lim : Nat), a ≤ b → b ≤ 203 → b - a ≤ n → lim ≤ 64 → Calls Tryd.prog 48 #[tabS g, .int .i64 (a : Int), .int .i64 (b : Int), .int .i64 (lim : Int)] w fun e w' => e = .returned (.tuple #[]) ∧ SR w g t w') := Lib.hid (fun w => @ih w)
    clear h ih
    go_enter Tryd.func48, Tryd.ntmps48
    go_wp2
    go_loopw [1, 2, 3, 8, 9] (fun av bv lv b1 b2 wr => PdqR w g t a b av bv lv b1 b2 wr) (fun av bv _ _ _ _ => (intOf bv).toNat - (intOf av).toNat)
    case atStart => exact ⟨a, b, lim, true, true, by omega, by omega, hab, hl, rfl, rfl, rfl, rfl, rfl, H.out⟩
    case round =>
      obtain ⟨a1, b1, lim1, bal, part, ha1, hb1, hab2, hlim, rfl, rfl, rfl, rfl, rfl, hS⟩ := hrel.ex
      have HS := Lib.hid hS
      clear hS hrel H
      obtain ⟨l, hle⟩ : ∃ l, l = b1 - a1 := ⟨_, rfl⟩
      have e1 : (b1 : Int) - (a1 : Int) = (l : Int) := by omega
      by_cases h12 : l ≤ 12
      · have hd : decide ((l : Int) ≤ 12) = true := by rw [decide_eq_true_eq]; omega
        clear hle
        go_wp2_with (go_at_call 53; refine (ins_any HS.out.here a1 b1 (by omega) (by omega)).mono ?_; rintro e w1 ⟨rfl, s1⟩; have S1 := Lib.hid (HS.out.then s1); clear s1)
        all_goals try (exfalso; omega)
        refine bodyPost_ret (results_none rfl _ _ _) rfl ?_
        exact ⟨rfl, S1.out⟩
      · have hd : decide ((l : Int) ≤ 12) = false := by rw [decide_eq_false_iff_not]; omega
        have hgap : a1 + 12 < b1 := by omega
        have hll : l ≤ 203 := by omega
        clear hle
        by_cases h0 : lim1 = 0
        · subst h0
          go_wp2_with (go_at_call 54; refine (heap_any HS.out.here a1 b1 (by omega) (by omega)).mono ?_; rintro e w1 ⟨rfl, s1⟩; have S1 := Lib.hid (HS.out.then s1); clear s1)
          all_goals try (exfalso; omega)
          refine bodyPost_ret (results_none rfl _ _ _) rfl ?_
          exact ⟨rfl, S1.out⟩
        · have hl0 : ((lim1 : Int) == 0) = false := by rw [beq_eq_false_iff_ne]; omega
          cases bal
          · obtain ⟨lim2, hlim2⟩ : ∃ lim2, lim2 = lim1 - 1 := ⟨_, rfl⟩
            have e11 : (lim1 : Int) - 1 = (lim2 : Int) := by omega
            have hlim3 : lim2 ≤ 64 := by omega
            clear hlim2
            go_wp2_with (go_at_call 55; refine (break_any HS.out.here a1 b1 (by omega) (by omega)).mono ?_; rintro e w1 ⟨rfl, s1⟩; have S1 := Lib.hid (HS.out.then s1); clear s1)
            all_goals try (exfalso; omega)
            refine (pivot_any S1.out.here a1 b1 (by omega) (by omega)).mono ?_
            rintro e w2 ⟨⟨p, z, rfl, hp1, hp2, hz⟩, s2⟩
            have S2 := Lib.hid (S1.out.then s2)
            clear s2
            rcases hz with rfl | rfl | rfl
            · skip
              obtain ⟨pv, hpv⟩ : ∃ pv, pv = p := ⟨_, rfl⟩
              have HPV : Hid (a1 ≤ pv ∧ pv < b1) := Lib.hid (by omega)
              obtain rfl : pv = p := hpv
              clear hp1 hp2
              have S5 := S2
              obtain ⟨w5, hw5⟩ : ∃ w5, w5 = w2 := ⟨_, rfl⟩
              obtain rfl : w5 = w2 := hw5
              as_aux_lemma =>
                by_cases ha0 : a1 = 0
                · have hd0 : decide (0 < a1) = false := by rw [decide_eq_false_iff_not]; omega
                  have hd00 : ¬ (0 : Int) < (a1 : Int) := by omega
                  clear ha0
                  go_wp2
                  all_goals try (exfalso; omega)
                  go_quiet (fail)
                  have S6 := Lib.hid (S5.out.drewN nq)
                  generalize w5.drewN nq = w6 at *
                  as_aux_lemma =>
                    go_wp2_with fail
                    refine (part_any S6.out.here a1 b1 pv (by omega) (by omega) (by have := HPV.out; omega)).mono ?_
                    rintro e w7 ⟨⟨m, al, rfl, hm1, hm2⟩, s7⟩
                    have S7 := Lib.hid (S6.out.then s7)
                    clear s7
                    obtain ⟨ll, hll⟩ : ∃ ll, ll = m - a1 := ⟨_, rfl⟩
                    obtain ⟨rl, hrl⟩ : ∃ rl, rl = b1 - m := ⟨_, rfl⟩
                    have e5 : (m : Int) - (a1 : Int) = (ll : Int) := by omega
                    have e6 : (b1 : Int) - (m : Int) = (rl : Int) := by omega
                    obtain ⟨m1, hm⟩ : ∃ m1, m1 = m + 1 := ⟨_, rfl⟩
                    have e7 : (m : Int) + 1 = (m1 : Int) := by omega
                    have HLR := Lib.hid (And.intro hll (And.intro hrl hm))
                    have hmb : m < 203 := by omega
                    have hab1 : a1 ≤ 203 ∧ b1 ≤ 203 := by omega
                    clear hll hrl hm
                    by_cases hlr : ll < rl
                    · have hd1 : decide (ll < rl) = true := by rw [decide_eq_true_eq]; exact hlr
                      go_wp2_with fail
                      refine (IH.out w7 S7.out.here a1 m lim2 (by omega) (by omega) (by omega) (by omega)).mono ?_
                      rintro e w8 ⟨rfl, s8⟩
                      have S8 := Lib.hid (S7.out.then s8)
                      clear s8
                      go_wp2
                      all_goals
                        go_roundw
                        case rel => exact ⟨m1, b1, lim2, _, al, by have := HLR.out; omega, by omega, by have := HLR.out; omega, by omega, rfl, rfl, rfl, rfl, rfl, S8.out⟩
                        case measure => first | (simp [intOf]; done) | (simp [intOf]; have := HLR.out; omega)
                    · have hd1 : decide (ll < rl) = false := by rw [decide_eq_false_iff_not]; exact hlr
                      go_wp2_with fail
                      refine (IH.out w7 S7.out.here m1 b1 lim2 (by have := HLR.out; omega) (by omega) (by have := HLR.out; omega) (by omega)).mono ?_
                      rintro e w8 ⟨rfl, s8⟩
                      have S8 := Lib.hid (S7.out.then s8)
                      clear s8
                      go_wp2
                      all_goals
                        go_roundw
                        case rel => exact ⟨a1, m, lim2, _, al, by omega, by omega, by omega, by omega, rfl, rfl, rfl, rfl, rfl, S8.out⟩
                        case measure => first | (simp [intOf]; done) | (simp [intOf]; omega)
                · have hd0 : decide (0 < a1) = true := by rw [decide_eq_true_eq]; omega
                  have hd00 : (0 : Int) < (a1 : Int) := by omega
                  obtain ⟨am, ham⟩ : ∃ am, am = a1 - 1 := ⟨_, rfl⟩
                  have e4 : (a1 : Int) - 1 = (am : Int) := by omega
                  have aml : am < 203 := by omega
                  have pvl : pv < 203 := by have := HPV.out; omega
                  clear ham
                  obtain ⟨L, hL⟩ := S5.out
                  have c1 := hL.cell aml
                  have c2 := hL.cell pvl
                  clear hL
                  cases hless : decide (tg L am < tg L pv)
                  · go_wp2
                    go_quiet (first | (go_at_call 59; refine Calls.quiet_of_same (less_v hless _)))
                    have S6 := Lib.hid (S5.out.drewN nq)
                    clear c1 c2 hless
                    generalize w5.drewN nq = w6 at *
                    go_wp2_with fail
                    refine (parteq_any S6.out.here a1 b1 pv (by omega) (by omega) pvl).mono ?_
                    rintro e w7 ⟨⟨m, rfl, hm1, hm2⟩, s7⟩
                    have S7 := Lib.hid (S6.out.then s7)
                    clear s7
                    go_wp2
                    go_roundw
                    case rel => exact ⟨m, b1, lim2, false, part, by omega, by omega, by omega, by omega, rfl, rfl, rfl, rfl, rfl, S7.out⟩
                    case measure => first | (simp [intOf]; done) | (simp [intOf]; omega)
                  · go_wp2
                    go_quiet (first | (go_at_call 59; refine Calls.quiet_of_same (less_v hless _)))
                    have S6 := Lib.hid (S5.out.drewN nq)
                    clear c1 c2 hless
                    generalize w5.drewN nq = w6 at *
                    as_aux_lemma =>
                      go_wp2_with fail
                      refine (part_any S6.out.here a1 b1 pv (by omega) (by omega) (by have := HPV.out; omega)).mono ?_
                      rintro e w7 ⟨⟨m, al, rfl, hm1, hm2⟩, s7⟩
                      have S7 := Lib.hid (S6.out.then s7)
                      clear s7
                      obtain ⟨ll, hll⟩ : ∃ ll, ll = m - a1 := ⟨_, rfl⟩
                      obtain ⟨rl, hrl⟩ : ∃ rl, rl = b1 - m := ⟨_, rfl⟩
                      have e5 : (m : Int) - (a1 : Int) = (ll : Int) := by omega
                      have e6 : (b1 : Int) - (m : Int) = (rl : Int) := by omega
                      obtain ⟨m1, hm⟩ : ∃ m1, m1 = m + 1 := ⟨_, rfl⟩
                      have e7 : (m : Int) + 1 = (m1 : Int) := by omega
                      have HLR := Lib.hid (And.intro hll (And.intro hrl hm))
                      have hmb : m < 203 := by omega
                      have hab1 : a1 ≤ 203 ∧ b1 ≤ 203 := by omega
                      clear hll hrl hm
                      by_cases hlr : ll < rl
                      · have hd1 : decide (ll < rl) = true := by rw [decide_eq_true_eq]; exact hlr
                        go_wp2_with fail
                        refine (IH.out w7 S7.out.here a1 m lim2 (by omega) (by omega) (by omega) (by omega)).mono ?_
                        rintro e w8 ⟨rfl, s8⟩
                        have S8 := Lib.hid (S7.out.then s8)
                        clear s8
                        go_wp2
                        all_goals
                          go_roundw
                          case rel => exact ⟨m1, b1, lim2, _, al, by have := HLR.out; omega, by omega, by have := HLR.out; omega, by omega, rfl, rfl, rfl, rfl, rfl, S8.out⟩
                          case measure => first | (simp [intOf]; done) | (simp [intOf]; have := HLR.out; omega)
                      · have hd1 : decide (ll < rl) = false := by rw [decide_eq_false_iff_not]; exact hlr
                        go_wp2_with fail
                        refine (IH.out w7 S7.out.here m1 b1 lim2 (by have := HLR.out; omega) (by omega) (by have := HLR.out; omega) (by omega)).mono ?_
                        rintro e w8 ⟨rfl, s8⟩
                        have S8 := Lib.hid (S7.out.then s8)
                        clear s8
                        go_wp2
                        all_goals
                          go_roundw
                          case rel => exact ⟨a1, m, lim2, _, al, by omega, by omega, by omega, by omega, rfl, rfl, rfl, rfl, rfl, S8.out⟩
                          case measure => first | (simp [intOf]; done) | (simp [intOf]; omega)
            · skip
              obtain ⟨pv, hpv⟩ : ∃ pv, pv = p := ⟨_, rfl⟩
              have HPV : Hid (a1 ≤ pv ∧ pv < b1) := Lib.hid (by omega)
              obtain rfl : pv = p := hpv
              clear hp1 hp2
              have S5 := S2
              obtain ⟨w5, hw5⟩ : ∃ w5, w5 = w2 := ⟨_, rfl⟩
              obtain rfl : w5 = w2 := hw5
              as_aux_lemma =>
                by_cases ha0 : a1 = 0
                · have hd0 : decide (0 < a1) = false := by rw [decide_eq_false_iff_not]; omega
                  have hd00 : ¬ (0 : Int) < (a1 : Int) := by omega
                  clear ha0
                  go_wp2
                  all_goals try (exfalso; omega)
                  go_quiet (fail)
                  have S6 := Lib.hid (S5.out.drewN nq)
                  generalize w5.drewN nq = w6 at *
                  as_aux_lemma =>
                    go_wp2_with fail
                    refine (part_any S6.out.here a1 b1 pv (by omega) (by omega) (by have := HPV.out; omega)).mono ?_
                    rintro e w7 ⟨⟨m, al, rfl, hm1, hm2⟩, s7⟩
                    have S7 := Lib.hid (S6.out.then s7)
                    clear s7
                    obtain ⟨ll, hll⟩ : ∃ ll, ll = m - a1 := ⟨_, rfl⟩
                    obtain ⟨rl, hrl⟩ : ∃ rl, rl = b1 - m := ⟨_, rfl⟩
                    have e5 : (m : Int) - (a1 : Int) = (ll : Int) := by omega
                    have e6 : (b1 : Int) - (m : Int) = (rl : Int) := by omega
                    obtain ⟨m1, hm⟩ : ∃ m1, m1 = m + 1 := ⟨_, rfl⟩
                    have e7 : (m : Int) + 1 = (m1 : Int) := by omega
                    have HLR := Lib.hid (And.intro hll (And.intro hrl hm))
                    have hmb : m < 203 := by omega
                    have hab1 : a1 ≤ 203 ∧ b1 ≤ 203 := by omega
                    clear hll hrl hm
                    by_cases hlr : ll < rl
                    · have hd1 : decide (ll < rl) = true := by rw [decide_eq_true_eq]; exact hlr
                      go_wp2_with fail
                      refine (IH.out w7 S7.out.here a1 m lim2 (by omega) (by omega) (by omega) (by omega)).mono ?_
                      rintro e w8 ⟨rfl, s8⟩
                      have S8 := Lib.hid (S7.out.then s8)
                      clear s8
                      go_wp2
                      all_goals
                        go_roundw
                        case rel => exact ⟨m1, b1, lim2, _, al, by have := HLR.out; omega, by omega, by have := HLR.out; omega, by omega, rfl, rfl, rfl, rfl, rfl, S8.out⟩
                        case measure => first | (simp [intOf]; done) | (simp [intOf]; have := HLR.out; omega)
                    · have hd1 : decide (ll < rl) = false := by rw [decide_eq_false_iff_not]; exact hlr
                      go_wp2_with fail
                      refine (IH.out w7 S7.out.here m1 b1 lim2 (by have := HLR.out; omega) (by omega) (by have := HLR.out; omega) (by omega)).mono ?_
                      rintro e w8 ⟨rfl, s8⟩
                      have S8 := Lib.hid (S7.out.then s8)
                      clear s8
                      go_wp2
                      all_goals
                        go_roundw
                        case rel => exact ⟨a1, m, lim2, _, al, by omega, by omega, by omega, by omega, rfl, rfl, rfl, rfl, rfl, S8.out⟩
                        case measure => first | (simp [intOf]; done) | (simp [intOf]; omega)
                · have hd0 : decide (0 < a1) = true := by rw [decide_eq_true_eq]; omega
                  have hd00 : (0 : Int) < (a1 : Int) := by omega
                  obtain ⟨am, ham⟩ : ∃ am, am = a1 - 1 := ⟨_, rfl⟩
                  have e4 : (a1 : Int) - 1 = (am : Int) := by omega
                  have aml : am < 203 := by omega
                  have pvl : pv < 203 := by have := HPV.out; omega
                  clear ham
                  obtain ⟨L, hL⟩ := S5.out
                  have c1 := hL.cell aml
                  have c2 := hL.cell pvl
                  clear hL
                  cases hless : decide (tg L am < tg L pv)
                  · go_wp2
                    go_quiet (first | (go_at_call 59; refine Calls.quiet_of_same (less_v hless _)))
                    have S6 := Lib.hid (S5.out.drewN nq)
                    clear c1 c2 hless
                    generalize w5.drewN nq = w6 at *
                    go_wp2_with fail
                    refine (parteq_any S6.out.here a1 b1 pv (by omega) (by omega) pvl).mono ?_
                    rintro e w7 ⟨⟨m, rfl, hm1, hm2⟩, s7⟩
                    have S7 := Lib.hid (S6.out.then s7)
                    clear s7
                    go_wp2
                    go_roundw
                    case rel => exact ⟨m, b1, lim2, false, part, by omega, by omega, by omega, by omega, rfl, rfl, rfl, rfl, rfl, S7.out⟩
                    case measure => first | (simp [intOf]; done) | (simp [intOf]; omega)
                  · go_wp2
                    go_quiet (first | (go_at_call 59; refine Calls.quiet_of_same (less_v hless _)))
                    have S6 := Lib.hid (S5.out.drewN nq)
                    clear c1 c2 hless
                    generalize w5.drewN nq = w6 at *
                    as_aux_lemma =>
                      go_wp2_with fail
                      refine (part_any S6.out.here a1 b1 pv (by omega) (by omega) (by have := HPV.out; omega)).mono ?_
                      rintro e w7 ⟨⟨m, al, rfl, hm1, hm2⟩, s7⟩
                      have S7 := Lib.hid (S6.out.then s7)
                      clear s7
                      obtain ⟨ll, hll⟩ : ∃ ll, ll = m - a1 := ⟨_, rfl⟩
                      obtain ⟨rl, hrl⟩ : ∃ rl, rl = b1 - m := ⟨_, rfl⟩
                      have e5 : (m : Int) - (a1 : Int) = (ll : Int) := by omega
                      have e6 : (b1 : Int) - (m : Int) = (rl : Int) := by omega
                      obtain ⟨m1, hm⟩ : ∃ m1, m1 = m + 1 := ⟨_, rfl⟩
                      have e7 : (m : Int) + 1 = (m1 : Int) := by omega
                      have HLR := Lib.hid (And.intro hll (And.intro hrl hm))
                      have hmb : m < 203 := by omega
                      have hab1 : a1 ≤ 203 ∧ b1 ≤ 203 := by omega
                      clear hll hrl hm
                      by_cases hlr : ll < rl
                      · have hd1 : decide (ll < rl) = true := by rw [decide_eq_true_eq]; exact hlr
                        go_wp2_with fail
                        refine (IH.out w7 S7.out.here a1 m lim2 (by omega) (by omega) (by omega) (by omega)).mono ?_
                        rintro e w8 ⟨rfl, s8⟩
                        have S8 := Lib.hid (S7.out.then s8)
                        clear s8
                        go_wp2
                        all_goals
                          go_roundw
                          case rel => exact ⟨m1, b1, lim2, _, al, by have := HLR.out; omega, by omega, by have := HLR.out; omega, by omega, rfl, rfl, rfl, rfl, rfl, S8.out⟩
                          case measure => first | (simp [intOf]; done) | (simp [intOf]; have := HLR.out; omega)
                      · have hd1 : decide (ll < rl) = false := by rw [decide_eq_false_iff_not]; exact hlr
                        go_wp2_with fail
                        refine (IH.out w7 S7.out.here m1 b1 lim2 (by have := HLR.out; omega) (by omega) (by have := HLR.out; omega) (by omega)).mono ?_
                        rintro e w8 ⟨rfl, s8⟩
                        have S8 := Lib.hid (S7.out.then s8)
                        clear s8
                        go_wp2
                        all_goals
                          go_roundw
                          case rel => exact ⟨a1, m, lim2, _, al, by omega, by omega, by omega, by omega, rfl, rfl, rfl, rfl, rfl, S8.out⟩
                          case measure => first | (simp [intOf]; done) | (simp [intOf]; omega)
            · skip
              go_wp2_with fail
              refine (rev_any S2.out.here a1 b1 (by omega)).mono ?_
              rintro e w3 ⟨rfl, s3⟩
              have S3 := Lib.hid (S2.out.then s3)
              clear s3
              obtain ⟨bm, hbm⟩ : ∃ bm, bm = b1 - 1 := ⟨_, rfl⟩
              have e8 : (b1 : Int) - 1 = (bm : Int) := by omega
              obtain ⟨pa, hpa⟩ : ∃ pa, pa = p - a1 := ⟨_, rfl⟩
              have e9 : (p : Int) - (a1 : Int) = (pa : Int) := by omega
              obtain ⟨pv, hpv⟩ : ∃ pv, pv = bm - pa := ⟨_, rfl⟩
              have e10 : (bm : Int) - (pa : Int) = (pv : Int) := by omega
              have HPV : Hid (a1 ≤ pv ∧ pv < b1) := Lib.hid (by omega)
              have hbnd : bm < 203 ∧ pa < 203 ∧ pv < 203 := by omega
              clear hbm hpa hpv hp1 hp2
              have S5 := S3
              obtain ⟨w5, hw5⟩ : ∃ w5, w5 = w3 := ⟨_, rfl⟩
              obtain rfl : w5 = w3 := hw5
              as_aux_lemma =>
                by_cases ha0 : a1 = 0
                · have hd0 : decide (0 < a1) = false := by rw [decide_eq_false_iff_not]; omega
                  have hd00 : ¬ (0 : Int) < (a1 : Int) := by omega
                  clear ha0
                  go_wp2
                  all_goals try (exfalso; omega)
                  go_quiet (fail)
                  have S6 := Lib.hid (S5.out.drewN nq)
                  generalize w5.drewN nq = w6 at *
                  as_aux_lemma =>
                    go_wp2_with fail
                    refine (part_any S6.out.here a1 b1 pv (by omega) (by omega) (by have := HPV.out; omega)).mono ?_
                    rintro e w7 ⟨⟨m, al, rfl, hm1, hm2⟩, s7⟩
                    have S7 := Lib.hid (S6.out.then s7)
                    clear s7
                    obtain ⟨ll, hll⟩ : ∃ ll, ll = m - a1 := ⟨_, rfl⟩
                    obtain ⟨rl, hrl⟩ : ∃ rl, rl = b1 - m := ⟨_, rfl⟩
                    have e5 : (m : Int) - (a1 : Int) = (ll : Int) := by omega
                    have e6 : (b1 : Int) - (m : Int) = (rl : Int) := by omega
                    obtain ⟨m1, hm⟩ : ∃ m1, m1 = m + 1 := ⟨_, rfl⟩
                    have e7 : (m : Int) + 1 = (m1 : Int) := by omega
                    have HLR := Lib.hid (And.intro hll (And.intro hrl hm))
                    have hmb : m < 203 := by omega
                    have hab1 : a1 ≤ 203 ∧ b1 ≤ 203 := by omega
                    clear hll hrl hm
                    by_cases hlr : ll < rl
                    · have hd1 : decide (ll < rl) = true := by rw [decide_eq_true_eq]; exact hlr
                      go_wp2_with fail
                      refine (IH.out w7 S7.out.here a1 m lim2 (by omega) (by omega) (by omega) (by omega)).mono ?_
                      rintro e w8 ⟨rfl, s8⟩
                      have S8 := Lib.hid (S7.out.then s8)
                      clear s8
                      go_wp2
                      all_goals
                        go_roundw
                        case rel => exact ⟨m1, b1, lim2, _, al, by have := HLR.out; omega, by omega, by have := HLR.out; omega, by omega, rfl, rfl, rfl, rfl, rfl, S8.out⟩
                        case measure => first | (simp [intOf]; done) | (simp [intOf]; have := HLR.out; omega)
                    · have hd1 : decide (ll < rl) = false := by rw [decide_eq_false_iff_not]; exact hlr
                      go_wp2_with fail
                      refine (IH.out w7 S7.out.here m1 b1 lim2 (by have := HLR.out; omega) (by omega) (by have := HLR.out; omega) (by omega)).mono ?_
                      rintro e w8 ⟨rfl, s8⟩
                      have S8 := Lib.hid (S7.out.then s8)
                      clear s8
                      go_wp2
                      all_goals
                        go_roundw
                        case rel => exact ⟨a1, m, lim2, _, al, by omega, by omega, by omega, by omega, rfl, rfl, rfl, rfl, rfl, S8.out⟩
                        case measure => first | (simp [intOf]; done) | (simp [intOf]; omega)
                · have hd0 : decide (0 < a1) = true := by rw [decide_eq_true_eq]; omega
                  have hd00 : (0 : Int) < (a1 : Int) := by omega
                  obtain ⟨am, ham⟩ : ∃ am, am = a1 - 1 := ⟨_, rfl⟩
                  have e4 : (a1 : Int) - 1 = (am : Int) := by omega
                  have aml : am < 203 := by omega
                  have pvl : pv < 203 := by have := HPV.out; omega
                  clear ham
                  obtain ⟨L, hL⟩ := S5.out
                  have c1 := hL.cell aml
                  have c2 := hL.cell pvl
                  clear hL
                  cases hless : decide (tg L am < tg L pv)
                  · go_wp2
                    go_quiet (first | (go_at_call 59; refine Calls.quiet_of_same (less_v hless _)))
                    have S6 := Lib.hid (S5.out.drewN nq)
                    clear c1 c2 hless
                    generalize w5.drewN nq = w6 at *
                    go_wp2_with fail
                    refine (parteq_any S6.out.here a1 b1 pv (by omega) (by omega) pvl).mono ?_
                    rintro e w7 ⟨⟨m, rfl, hm1, hm2⟩, s7⟩
                    have S7 := Lib.hid (S6.out.then s7)
                    clear s7
                    go_wp2
                    go_roundw
                    case rel => exact ⟨m, b1, lim2, false, part, by omega, by omega, by omega, by omega, rfl, rfl, rfl, rfl, rfl, S7.out⟩
                    case measure => first | (simp [intOf]; done) | (simp [intOf]; omega)
                  · go_wp2
                    go_quiet (first | (go_at_call 59; refine Calls.quiet_of_same (less_v hless _)))
                    have S6 := Lib.hid (S5.out.drewN nq)
                    clear c1 c2 hless
                    generalize w5.drewN nq = w6 at *
                    as_aux_lemma =>
                      go_wp2_with fail
                      refine (part_any S6.out.here a1 b1 pv (by omega) (by omega) (by have := HPV.out; omega)).mono ?_
                      rintro e w7 ⟨⟨m, al, rfl, hm1, hm2⟩, s7⟩
                      have S7 := Lib.hid (S6.out.then s7)
                      clear s7
                      obtain ⟨ll, hll⟩ : ∃ ll, ll = m - a1 := ⟨_, rfl⟩
                      obtain ⟨rl, hrl⟩ : ∃ rl, rl = b1 - m := ⟨_, rfl⟩
                      have e5 : (m : Int) - (a1 : Int) = (ll : Int) := by omega
                      have e6 : (b1 : Int) - (m : Int) = (rl : Int) := by omega
                      obtain ⟨m1, hm⟩ : ∃ m1, m1 = m + 1 := ⟨_, rfl⟩
                      have e7 : (m : Int) + 1 = (m1 : Int) := by omega
                      have HLR := Lib.hid (And.intro hll (And.intro hrl hm))
                      have hmb : m < 203 := by omega
                      have hab1 : a1 ≤ 203 ∧ b1 ≤ 203 := by omega
                      clear hll hrl hm
                      by_cases hlr : ll < rl
                      · have hd1 : decide (ll < rl) = true := by rw [decide_eq_true_eq]; exact hlr
                        go_wp2_with fail
                        refine (IH.out w7 S7.out.here a1 m lim2 (by omega) (by omega) (by omega) (by omega)).mono ?_
                        rintro e w8 ⟨rfl, s8⟩
                        have S8 := Lib.hid (S7.out.then s8)
                        clear s8
                        go_wp2
                        all_goals
                          go_roundw
                          case rel => exact ⟨m1, b1, lim2, _, al, by have := HLR.out; omega, by omega, by have := HLR.out; omega, by omega, rfl, rfl, rfl, rfl, rfl, S8.out⟩
                          case measure => first | (simp [intOf]; done) | (simp [intOf]; have := HLR.out; omega)
                      · have hd1 : decide (ll < rl) = false := by rw [decide_eq_false_iff_not]; exact hlr
                        go_wp2_with fail
                        refine (IH.out w7 S7.out.here m1 b1 lim2 (by have := HLR.out; omega) (by omega) (by have := HLR.out; omega) (by omega)).mono ?_
                        rintro e w8 ⟨rfl, s8⟩
                        have S8 := Lib.hid (S7.out.then s8)
                        clear s8
                        go_wp2
                        all_goals
                          go_roundw
                          case rel => exact ⟨a1, m, lim2, _, al, by omega, by omega, by omega, by omega, rfl, rfl, rfl, rfl, rfl, S8.out⟩
                          case measure => first | (simp [intOf]; done) | (simp [intOf]; omega)
          · cases part
            · go_wp2_with fail
              all_goals try (exfalso; omega)
              have S1 := HS
              refine (pivot_any S1.out.here a1 b1 (by omega) (by omega)).mono ?_
              rintro e w2 ⟨⟨p, z, rfl, hp1, hp2, hz⟩, s2⟩
              have S2 := Lib.hid (S1.out.then s2)
              clear s2
              rcases hz with rfl | rfl | rfl
              · skip
                obtain ⟨pv, hpv⟩ : ∃ pv, pv = p := ⟨_, rfl⟩
                have HPV : Hid (a1 ≤ pv ∧ pv < b1) := Lib.hid (by omega)
                obtain rfl : pv = p := hpv
                clear hp1 hp2
                have S5 := S2
                obtain ⟨w5, hw5⟩ : ∃ w5, w5 = w2 := ⟨_, rfl⟩
                obtain rfl : w5 = w2 := hw5
                as_aux_lemma =>
                  by_cases ha0 : a1 = 0
                  · have hd0 : decide (0 < a1) = false := by rw [decide_eq_false_iff_not]; omega
                    have hd00 : ¬ (0 : Int) < (a1 : Int) := by omega
                    clear ha0
                    go_wp2
                    all_goals try (exfalso; omega)
                    go_quiet (fail)
                    have S6 := Lib.hid (S5.out.drewN nq)
                    generalize w5.drewN nq = w6 at *
                    as_aux_lemma =>
                      go_wp2_with fail
                      refine (part_any S6.out.here a1 b1 pv (by omega) (by omega) (by have := HPV.out; omega)).mono ?_
                      rintro e w7 ⟨⟨m, al, rfl, hm1, hm2⟩, s7⟩
                      have S7 := Lib.hid (S6.out.then s7)
                      clear s7
                      obtain ⟨ll, hll⟩ : ∃ ll, ll = m - a1 := ⟨_, rfl⟩
                      obtain ⟨rl, hrl⟩ : ∃ rl, rl = b1 - m := ⟨_, rfl⟩
                      have e5 : (m : Int) - (a1 : Int) = (ll : Int) := by omega
                      have e6 : (b1 : Int) - (m : Int) = (rl : Int) := by omega
                      obtain ⟨m1, hm⟩ : ∃ m1, m1 = m + 1 := ⟨_, rfl⟩
                      have e7 : (m : Int) + 1 = (m1 : Int) := by omega
                      have HLR := Lib.hid (And.intro hll (And.intro hrl hm))
                      have hmb : m < 203 := by omega
                      have hab1 : a1 ≤ 203 ∧ b1 ≤ 203 := by omega
                      clear hll hrl hm
                      by_cases hlr : ll < rl
                      · have hd1 : decide (ll < rl) = true := by rw [decide_eq_true_eq]; exact hlr
                        go_wp2_with fail
                        refine (IH.out w7 S7.out.here a1 m lim1 (by omega) (by omega) (by omega) (by omega)).mono ?_
                        rintro e w8 ⟨rfl, s8⟩
                        have S8 := Lib.hid (S7.out.then s8)
                        clear s8
                        go_wp2
                        all_goals
                          go_roundw
                          case rel => exact ⟨m1, b1, lim1, _, al, by have := HLR.out; omega, by omega, by have := HLR.out; omega, by omega, rfl, rfl, rfl, rfl, rfl, S8.out⟩
                          case measure => first | (simp [intOf]; done) | (simp [intOf]; have := HLR.out; omega)
                      · have hd1 : decide (ll < rl) = false := by rw [decide_eq_false_iff_not]; exact hlr
                        go_wp2_with fail
                        refine (IH.out w7 S7.out.here m1 b1 lim1 (by have := HLR.out; omega) (by omega) (by have := HLR.out; omega) (by omega)).mono ?_
                        rintro e w8 ⟨rfl, s8⟩
                        have S8 := Lib.hid (S7.out.then s8)
                        clear s8
                        go_wp2
                        all_goals
                          go_roundw
                          case rel => exact ⟨a1, m, lim1, _, al, by omega, by omega, by omega, by omega, rfl, rfl, rfl, rfl, rfl, S8.out⟩
                          case measure => first | (simp [intOf]; done) | (simp [intOf]; omega)
                  · have hd0 : decide (0 < a1) = true := by rw [decide_eq_true_eq]; omega
                    have hd00 : (0 : Int) < (a1 : Int) := by omega
                    obtain ⟨am, ham⟩ : ∃ am, am = a1 - 1 := ⟨_, rfl⟩
                    have e4 : (a1 : Int) - 1 = (am : Int) := by omega
                    have aml : am < 203 := by omega
                    have pvl : pv < 203 := by have := HPV.out; omega
                    clear ham
                    obtain ⟨L, hL⟩ := S5.out
                    have c1 := hL.cell aml
                    have c2 := hL.cell pvl
                    clear hL
                    cases hless : decide (tg L am < tg L pv)
                    · go_wp2
                      go_quiet (first | (go_at_call 59; refine Calls.quiet_of_same (less_v hless _)))
                      have S6 := Lib.hid (S5.out.drewN nq)
                      clear c1 c2 hless
                      generalize w5.drewN nq = w6 at *
                      go_wp2_with fail
                      refine (parteq_any S6.out.here a1 b1 pv (by omega) (by omega) pvl).mono ?_
                      rintro e w7 ⟨⟨m, rfl, hm1, hm2⟩, s7⟩
                      have S7 := Lib.hid (S6.out.then s7)
                      clear s7
                      go_wp2
                      go_roundw
                      case rel => exact ⟨m, b1, lim1, true, false, by omega, by omega, by omega, by omega, rfl, rfl, rfl, rfl, rfl, S7.out⟩
                      case measure => first | (simp [intOf]; done) | (simp [intOf]; omega)
                    · go_wp2
                      go_quiet (first | (go_at_call 59; refine Calls.quiet_of_same (less_v hless _)))
                      have S6 := Lib.hid (S5.out.drewN nq)
                      clear c1 c2 hless
                      generalize w5.drewN nq = w6 at *
                      as_aux_lemma =>
                        go_wp2_with fail
                        refine (part_any S6.out.here a1 b1 pv (by omega) (by omega) (by have := HPV.out; omega)).mono ?_
                        rintro e w7 ⟨⟨m, al, rfl, hm1, hm2⟩, s7⟩
                        have S7 := Lib.hid (S6.out.then s7)
                        clear s7
                        obtain ⟨ll, hll⟩ : ∃ ll, ll = m - a1 := ⟨_, rfl⟩
                        obtain ⟨rl, hrl⟩ : ∃ rl, rl = b1 - m := ⟨_, rfl⟩
                        have e5 : (m : Int) - (a1 : Int) = (ll : Int) := by omega
                        have e6 : (b1 : Int) - (m : Int) = (rl : Int) := by omega
                        obtain ⟨m1, hm⟩ : ∃ m1, m1 = m + 1 := ⟨_, rfl⟩
                        have e7 : (m : Int) + 1 = (m1 : Int) := by omega
                        have HLR := Lib.hid (And.intro hll (And.intro hrl hm))
                        have hmb : m < 203 := by omega
                        have hab1 : a1 ≤ 203 ∧ b1 ≤ 203 := by omega
                        clear hll hrl hm
                        by_cases hlr : ll < rl
                        · have hd1 : decide (ll < rl) = true := by rw [decide_eq_true_eq]; exact hlr
                          go_wp2_with fail
                          refine (IH.out w7 S7.out.here a1 m lim1 (by omega) (by omega) (by omega) (by omega)).mono ?_
                          rintro e w8 ⟨rfl, s8⟩
                          have S8 := Lib.hid (S7.out.then s8)
                          clear s8
                          go_wp2
                          all_goals
                            go_roundw
                            case rel => exact ⟨m1, b1, lim1, _, al, by have := HLR.out; omega, by omega, by have := HLR.out; omega, by omega, rfl, rfl, rfl, rfl, rfl, S8.out⟩
                            case measure => first | (simp [intOf]; done) | (simp [intOf]; have := HLR.out; omega)
                        · have hd1 : decide (ll < rl) = false := by rw [decide_eq_false_iff_not]; exact hlr
                          go_wp2_with fail
                          refine (IH.out w7 S7.out.here m1 b1 lim1 (by have := HLR.out; omega) (by omega) (by have := HLR.out; omega) (by omega)).mono ?_
                          rintro e w8 ⟨rfl, s8⟩
                          have S8 := Lib.hid (S7.out.then s8)
                          clear s8
                          go_wp2
                          all_goals
                            go_roundw
                            case rel => exact ⟨a1, m, lim1, _, al, by omega, by omega, by omega, by omega, rfl, rfl, rfl, rfl, rfl, S8.out⟩
                            case measure => first | (simp [intOf]; done) | (simp [intOf]; omega)
              · skip
                obtain ⟨pv, hpv⟩ : ∃ pv, pv = p := ⟨_, rfl⟩
                have HPV : Hid (a1 ≤ pv ∧ pv < b1) := Lib.hid (by omega)
                obtain rfl : pv = p := hpv
                clear hp1 hp2
                have S5 := S2
                obtain ⟨w5, hw5⟩ : ∃ w5, w5 = w2 := ⟨_, rfl⟩
                obtain rfl : w5 = w2 := hw5
                as_aux_lemma =>
                  by_cases ha0 : a1 = 0
                  · have hd0 : decide (0 < a1) = false := by rw [decide_eq_false_iff_not]; omega
                    have hd00 : ¬ (0 : Int) < (a1 : Int) := by omega
                    clear ha0
                    go_wp2
                    all_goals try (exfalso; omega)
                    go_quiet (fail)
                    have S6 := Lib.hid (S5.out.drewN nq)
                    generalize w5.drewN nq = w6 at *
                    as_aux_lemma =>
                      go_wp2_with fail
                      refine (part_any S6.out.here a1 b1 pv (by omega) (by omega) (by have := HPV.out; omega)).mono ?_
                      rintro e w7 ⟨⟨m, al, rfl, hm1, hm2⟩, s7⟩
                      have S7 := Lib.hid (S6.out.then s7)
                      clear s7
                      obtain ⟨ll, hll⟩ : ∃ ll, ll = m - a1 := ⟨_, rfl⟩
                      obtain ⟨rl, hrl⟩ : ∃ rl, rl = b1 - m := ⟨_, rfl⟩
                      have e5 : (m : Int) - (a1 : Int) = (ll : Int) := by omega
                      have e6 : (b1 : Int) - (m : Int) = (rl : Int) := by omega
                      obtain ⟨m1, hm⟩ : ∃ m1, m1 = m + 1 := ⟨_, rfl⟩
                      have e7 : (m : Int) + 1 = (m1 : Int) := by omega
                      have HLR := Lib.hid (And.intro hll (And.intro hrl hm))
                      have hmb : m < 203 := by omega
                      have hab1 : a1 ≤ 203 ∧ b1 ≤ 203 := by omega
                      clear hll hrl hm
                      by_cases hlr : ll < rl
                      · have hd1 : decide (ll < rl) = true := by rw [decide_eq_true_eq]; exact hlr
                        go_wp2_with fail
                        refine (IH.out w7 S7.out.here a1 m lim1 (by omega) (by omega) (by omega) (by omega)).mono ?_
                        rintro e w8 ⟨rfl, s8⟩
                        have S8 := Lib.hid (S7.out.then s8)
                        clear s8
                        go_wp2
                        all_goals
                          go_roundw
                          case rel => exact ⟨m1, b1, lim1, _, al, by have := HLR.out; omega, by omega, by have := HLR.out; omega, by omega, rfl, rfl, rfl, rfl, rfl, S8.out⟩
                          case measure => first | (simp [intOf]; done) | (simp [intOf]; have := HLR.out; omega)
                      · have hd1 : decide (ll < rl) = false := by rw [decide_eq_false_iff_not]; exact hlr
                        go_wp2_with fail
                        refine (IH.out w7 S7.out.here m1 b1 lim1 (by have := HLR.out; omega) (by omega) (by have := HLR.out; omega) (by omega)).mono ?_
                        rintro e w8 ⟨rfl, s8⟩
                        have S8 := Lib.hid (S7.out.then s8)
                        clear s8
                        go_wp2
                        all_goals
                          go_roundw
                          case rel => exact ⟨a1, m, lim1, _, al, by omega, by omega, by omega, by omega, rfl, rfl, rfl, rfl, rfl, S8.out⟩
                          case measure => first | (simp [intOf]; done) | (simp [intOf]; omega)
                  · have hd0 : decide (0 < a1) = true := by rw [decide_eq_true_eq]; omega
                    have hd00 : (0 : Int) < (a1 : Int) := by omega
                    obtain ⟨am, ham⟩ : ∃ am, am = a1 - 1 := ⟨_, rfl⟩
                    have e4 : (a1 : Int) - 1 = (am : Int) := by omega
                    have aml : am < 203 := by omega
                    have pvl : pv < 203 := by have := HPV.out; omega
                    clear ham
                    obtain ⟨L, hL⟩ := S5.out
                    have c1 := hL.cell aml
                    have c2 := hL.cell pvl
                    clear hL
                    cases hless : decide (tg L am < tg L pv)
                    · go_wp2
                      go_quiet (first | (go_at_call 59; refine Calls.quiet_of_same (less_v hless _)))
                      have S6 := Lib.hid (S5.out.drewN nq)
                      clear c1 c2 hless
                      generalize w5.drewN nq = w6 at *
                      go_wp2_with fail
                      refine (parteq_any S6.out.here a1 b1 pv (by omega) (by omega) pvl).mono ?_
                      rintro e w7 ⟨⟨m, rfl, hm1, hm2⟩, s7⟩
                      have S7 := Lib.hid (S6.out.then s7)
                      clear s7
                      go_wp2
                      go_roundw
                      case rel => exact ⟨m, b1, lim1, true, false, by omega, by omega, by omega, by omega, rfl, rfl, rfl, rfl, rfl, S7.out⟩
                      case measure => first | (simp [intOf]; done) | (simp [intOf]; omega)
                    · go_wp2
                      go_quiet (first | (go_at_call 59; refine Calls.quiet_of_same (less_v hless _)))
                      have S6 := Lib.hid (S5.out.drewN nq)
                      clear c1 c2 hless
                      generalize w5.drewN nq = w6 at *
                      as_aux_lemma =>
                        go_wp2_with fail
                        refine (part_any S6.out.here a1 b1 pv (by omega) (by omega) (by have := HPV.out; omega)).mono ?_
                        rintro e w7 ⟨⟨m, al, rfl, hm1, hm2⟩, s7⟩
                        have S7 := Lib.hid (S6.out.then s7)
                        clear s7
                        obtain ⟨ll, hll⟩ : ∃ ll, ll = m - a1 := ⟨_, rfl⟩
                        obtain ⟨rl, hrl⟩ : ∃ rl, rl = b1 - m := ⟨_, rfl⟩
                        have e5 : (m : Int) - (a1 : Int) = (ll : Int) := by omega
                        have e6 : (b1 : Int) - (m : Int) = (rl : Int) := by omega
                        obtain ⟨m1, hm⟩ : ∃ m1, m1 = m + 1 := ⟨_, rfl⟩
                        have e7 : (m : Int) + 1 = (m1 : Int) := by omega
                        have HLR := Lib.hid (And.intro hll (And.intro hrl hm))
                        have hmb : m < 203 := by omega
                        have hab1 : a1 ≤ 203 ∧ b1 ≤ 203 := by omega
                        clear hll hrl hm
                        by_cases hlr : ll < rl
                        · have hd1 : decide (ll < rl) = true := by rw [decide_eq_true_eq]; exact hlr
                          go_wp2_with fail
                          refine (IH.out w7 S7.out.here a1 m lim1 (by omega) (by omega) (by omega) (by omega)).mono ?_
                          rintro e w8 ⟨rfl, s8⟩
                          have S8 := Lib.hid (S7.out.then s8)
                          clear s8
                          go_wp2
                          all_goals
                            go_roundw
                            case rel => exact ⟨m1, b1, lim1, _, al, by have := HLR.out; omega, by omega, by have := HLR.out; omega, by omega, rfl, rfl, rfl, rfl, rfl, S8.out⟩
                            case measure => first | (simp [intOf]; done) | (simp [intOf]; have := HLR.out; omega)
                        · have hd1 : decide (ll < rl) = false := by rw [decide_eq_false_iff_not]; exact hlr
                          go_wp2_with fail
                          refine (IH.out w7 S7.out.here m1 b1 lim1 (by have := HLR.out; omega) (by omega) (by have := HLR.out; omega) (by omega)).mono ?_
                          rintro e w8 ⟨rfl, s8⟩
                          have S8 := Lib.hid (S7.out.then s8)
                          clear s8
                          go_wp2
                          all_goals
                            go_roundw
                            case rel => exact ⟨a1, m, lim1, _, al, by omega, by omega, by omega, by omega, rfl, rfl, rfl, rfl, rfl, S8.out⟩
                            case measure => first | (simp [intOf]; done) | (simp [intOf]; omega)
              · skip
                go_wp2_with fail
                refine (rev_any S2.out.here a1 b1 (by omega)).mono ?_
                rintro e w3 ⟨rfl, s3⟩
                have S3 := Lib.hid (S2.out.then s3)
                clear s3
                obtain ⟨bm, hbm⟩ : ∃ bm, bm = b1 - 1 := ⟨_, rfl⟩
                have e8 : (b1 : Int) - 1 = (bm : Int) := by omega
                obtain ⟨pa, hpa⟩ : ∃ pa, pa = p - a1 := ⟨_, rfl⟩
                have e9 : (p : Int) - (a1 : Int) = (pa : Int) := by omega
                obtain ⟨pv, hpv⟩ : ∃ pv, pv = bm - pa := ⟨_, rfl⟩
                have e10 : (bm : Int) - (pa : Int) = (pv : Int) := by omega
                have HPV : Hid (a1 ≤ pv ∧ pv < b1) := Lib.hid (by omega)
                have hbnd : bm < 203 ∧ pa < 203 ∧ pv < 203 := by omega
                clear hbm hpa hpv hp1 hp2
                have S5 := S3
                obtain ⟨w5, hw5⟩ : ∃ w5, w5 = w3 := ⟨_, rfl⟩
                obtain rfl : w5 = w3 := hw5
                as_aux_lemma =>
                  by_cases ha0 : a1 = 0
                  · have hd0 : decide (0 < a1) = false := by rw [decide_eq_false_iff_not]; omega
                    have hd00 : ¬ (0 : Int) < (a1 : Int) := by omega
                    clear ha0
                    go_wp2
                    all_goals try (exfalso; omega)
                    go_quiet (fail)
                    have S6 := Lib.hid (S5.out.drewN nq)
                    generalize w5.drewN nq = w6 at *
                    as_aux_lemma =>
                      go_wp2_with fail
                      refine (part_any S6.out.here a1 b1 pv (by omega) (by omega) (by have := HPV.out; omega)).mono ?_
                      rintro e w7 ⟨⟨m, al, rfl, hm1, hm2⟩, s7⟩
                      have S7 := Lib.hid (S6.out.then s7)
                      clear s7
                      obtain ⟨ll, hll⟩ : ∃ ll, ll = m - a1 := ⟨_, rfl⟩
                      obtain ⟨rl, hrl⟩ : ∃ rl, rl = b1 - m := ⟨_, rfl⟩
                      have e5 : (m : Int) - (a1 : Int) = (ll : Int) := by omega
                      have e6 : (b1 : Int) - (m : Int) = (rl : Int) := by omega
                      obtain ⟨m1, hm⟩ : ∃ m1, m1 = m + 1 := ⟨_, rfl⟩
                      have e7 : (m : Int) + 1 = (m1 : Int) := by omega
                      have HLR := Lib.hid (And.intro hll (And.intro hrl hm))
                      have hmb : m < 203 := by omega
                      have hab1 : a1 ≤ 203 ∧ b1 ≤ 203 := by omega
                      clear hll hrl hm
                      by_cases hlr : ll < rl
                      · have hd1 : decide (ll < rl) = true := by rw [decide_eq_true_eq]; exact hlr
                        go_wp2_with fail
                        refine (IH.out w7 S7.out.here a1 m lim1 (by omega) (by omega) (by omega) (by omega)).mono ?_
                        rintro e w8 ⟨rfl, s8⟩
                        have S8 := Lib.hid (S7.out.then s8)
                        clear s8
                        go_wp2
                        all_goals
                          go_roundw
                          case rel => exact ⟨m1, b1, lim1, _, al, by have := HLR.out; omega, by omega, by have := HLR.out; omega, by omega, rfl, rfl, rfl, rfl, rfl, S8.out⟩
                          case measure => first | (simp [intOf]; done) | (simp [intOf]; have := HLR.out; omega)
                      · have hd1 : decide (ll < rl) = false := by rw [decide_eq_false_iff_not]; exact hlr
                        go_wp2_with fail
                        refine (IH.out w7 S7.out.here m1 b1 lim1 (by have := HLR.out; omega) (by omega) (by have := HLR.out; omega) (by omega)).mono ?_
                        rintro e w8 ⟨rfl, s8⟩
                        have S8 := Lib.hid (S7.out.then s8)
                        clear s8
                        go_wp2
                        all_goals
                          go_roundw
                          case rel => exact ⟨a1, m, lim1, _, al, by omega, by omega, by omega, by omega, rfl, rfl, rfl, rfl, rfl, S8.out⟩
                          case measure => first | (simp [intOf]; done) | (simp [intOf]; omega)
                  · have hd0 : decide (0 < a1) = true := by rw [decide_eq_true_eq]; omega
                    have hd00 : (0 : Int) < (a1 : Int) := by omega
                    obtain ⟨am, ham⟩ : ∃ am, am = a1 - 1 := ⟨_, rfl⟩
                    have e4 : (a1 : Int) - 1 = (am : Int) := by omega
                    have aml : am < 203 := by omega
                    have pvl : pv < 203 := by have := HPV.out; omega
                    clear ham
                    obtain ⟨L, hL⟩ := S5.out
                    have c1 := hL.cell aml
                    have c2 := hL.cell pvl
                    clear hL
                    cases hless : decide (tg L am < tg L pv)
                    · go_wp2
                      go_quiet (first | (go_at_call 59; refine Calls.quiet_of_same (less_v hless _)))
                      have S6 := Lib.hid (S5.out.drewN nq)
                      clear c1 c2 hless
                      generalize w5.drewN nq = w6 at *
                      go_wp2_with fail
                      refine (parteq_any S6.out.here a1 b1 pv (by omega) (by omega) pvl).mono ?_
                      rintro e w7 ⟨⟨m, rfl, hm1, hm2⟩, s7⟩
                      have S7 := Lib.hid (S6.out.then s7)
                      clear s7
                      go_wp2
                      go_roundw
                      case rel => exact ⟨m, b1, lim1, true, false, by omega, by omega, by omega, by omega, rfl, rfl, rfl, rfl, rfl, S7.out⟩
                      case measure => first | (simp [intOf]; done) | (simp [intOf]; omega)
                    · go_wp2
                      go_quiet (first | (go_at_call 59; refine Calls.quiet_of_same (less_v hless _)))
                      have S6 := Lib.hid (S5.out.drewN nq)
                      clear c1 c2 hless
                      generalize w5.drewN nq = w6 at *
                      as_aux_lemma =>
                        go_wp2_with fail
                        refine (part_any S6.out.here a1 b1 pv (by omega) (by omega) (by have := HPV.out; omega)).mono ?_
                        rintro e w7 ⟨⟨m, al, rfl, hm1, hm2⟩, s7⟩
                        have S7 := Lib.hid (S6.out.then s7)
                        clear s7
                        obtain ⟨ll, hll⟩ : ∃ ll, ll = m - a1 := ⟨_, rfl⟩
                        obtain ⟨rl, hrl⟩ : ∃ rl, rl = b1 - m := ⟨_, rfl⟩
                        have e5 : (m : Int) - (a1 : Int) = (ll : Int) := by omega
                        have e6 : (b1 : Int) - (m : Int) = (rl : Int) := by omega
                        obtain ⟨m1, hm⟩ : ∃ m1, m1 = m + 1 := ⟨_, rfl⟩
                        have e7 : (m : Int) + 1 = (m1 : Int) := by omega
                        have HLR := Lib.hid (And.intro hll (And.intro hrl hm))
                        have hmb : m < 203 := by omega
                        have hab1 : a1 ≤ 203 ∧ b1 ≤ 203 := by omega
                        clear hll hrl hm
                        by_cases hlr : ll < rl
                        · have hd1 : decide (ll < rl) = true := by rw [decide_eq_true_eq]; exact hlr
                          go_wp2_with fail
                          refine (IH.out w7 S7.out.here a1 m lim1 (by omega) (by omega) (by omega) (by omega)).mono ?_
                          rintro e w8 ⟨rfl, s8⟩
                          have S8 := Lib.hid (S7.out.then s8)
                          clear s8
                          go_wp2
                          all_goals
                            go_roundw
                            case rel => exact ⟨m1, b1, lim1, _, al, by have := HLR.out; omega, by omega, by have := HLR.out; omega, by omega, rfl, rfl, rfl, rfl, rfl, S8.out⟩
                            case measure => first | (simp [intOf]; done) | (simp [intOf]; have := HLR.out; omega)
                        · have hd1 : decide (ll < rl) = false := by rw [decide_eq_false_iff_not]; exact hlr
                          go_wp2_with fail
                          refine (IH.out w7 S7.out.here m1 b1 lim1 (by have := HLR.out; omega) (by omega) (by have := HLR.out; omega) (by omega)).mono ?_
                          rintro e w8 ⟨rfl, s8⟩
                          have S8 := Lib.hid (S7.out.then s8)
                          clear s8
                          go_wp2
                          all_goals
                            go_roundw
                            case rel => exact ⟨a1, m, lim1, _, al, by omega, by omega, by omega, by omega, rfl, rfl, rfl, rfl, rfl, S8.out⟩
                            case measure => first | (simp [intOf]; done) | (simp [intOf]; omega)
            · go_wp2_with fail
              all_goals try (exfalso; omega)
              have S1 := HS
              refine (pivot_any S1.out.here a1 b1 (by omega) (by omega)).mono ?_
              rintro e w2 ⟨⟨p, z, rfl, hp1, hp2, hz⟩, s2⟩
              have S2 := Lib.hid (S1.out.then s2)
              clear s2
              rcases hz with rfl | rfl | rfl
              · skip
                obtain ⟨pv, hpv⟩ : ∃ pv, pv = p := ⟨_, rfl⟩
                have HPV : Hid (a1 ≤ pv ∧ pv < b1) := Lib.hid (by omega)
                obtain rfl : pv = p := hpv
                clear hp1 hp2
                have S5 := S2
                obtain ⟨w5, hw5⟩ : ∃ w5, w5 = w2 := ⟨_, rfl⟩
                obtain rfl : w5 = w2 := hw5
                as_aux_lemma =>
                  by_cases ha0 : a1 = 0
                  · have hd0 : decide (0 < a1) = false := by rw [decide_eq_false_iff_not]; omega
                    have hd00 : ¬ (0 : Int) < (a1 : Int) := by omega
                    clear ha0
                    go_wp2
                    all_goals try (exfalso; omega)
                    go_quiet (fail)
                    have S6 := Lib.hid (S5.out.drewN nq)
                    generalize w5.drewN nq = w6 at *
                    as_aux_lemma =>
                      go_wp2_with fail
                      refine (part_any S6.out.here a1 b1 pv (by omega) (by omega) (by have := HPV.out; omega)).mono ?_
                      rintro e w7 ⟨⟨m, al, rfl, hm1, hm2⟩, s7⟩
                      have S7 := Lib.hid (S6.out.then s7)
                      clear s7
                      obtain ⟨ll, hll⟩ : ∃ ll, ll = m - a1 := ⟨_, rfl⟩
                      obtain ⟨rl, hrl⟩ : ∃ rl, rl = b1 - m := ⟨_, rfl⟩
                      have e5 : (m : Int) - (a1 : Int) = (ll : Int) := by omega
                      have e6 : (b1 : Int) - (m : Int) = (rl : Int) := by omega
                      obtain ⟨m1, hm⟩ : ∃ m1, m1 = m + 1 := ⟨_, rfl⟩
                      have e7 : (m : Int) + 1 = (m1 : Int) := by omega
                      have HLR := Lib.hid (And.intro hll (And.intro hrl hm))
                      have hmb : m < 203 := by omega
                      have hab1 : a1 ≤ 203 ∧ b1 ≤ 203 := by omega
                      clear hll hrl hm
                      by_cases hlr : ll < rl
                      · have hd1 : decide (ll < rl) = true := by rw [decide_eq_true_eq]; exact hlr
                        go_wp2_with fail
                        refine (IH.out w7 S7.out.here a1 m lim1 (by omega) (by omega) (by omega) (by omega)).mono ?_
                        rintro e w8 ⟨rfl, s8⟩
                        have S8 := Lib.hid (S7.out.then s8)
                        clear s8
                        go_wp2
                        all_goals
                          go_roundw
                          case rel => exact ⟨m1, b1, lim1, _, al, by have := HLR.out; omega, by omega, by have := HLR.out; omega, by omega, rfl, rfl, rfl, rfl, rfl, S8.out⟩
                          case measure => first | (simp [intOf]; done) | (simp [intOf]; have := HLR.out; omega)
                      · have hd1 : decide (ll < rl) = false := by rw [decide_eq_false_iff_not]; exact hlr
                        go_wp2_with fail
                        refine (IH.out w7 S7.out.here m1 b1 lim1 (by have := HLR.out; omega) (by omega) (by have := HLR.out; omega) (by omega)).mono ?_
                        rintro e w8 ⟨rfl, s8⟩
                        have S8 := Lib.hid (S7.out.then s8)
                        clear s8
                        go_wp2
                        all_goals
                          go_roundw
                          case rel => exact ⟨a1, m, lim1, _, al, by omega, by omega, by omega, by omega, rfl, rfl, rfl, rfl, rfl, S8.out⟩
                          case measure => first | (simp [intOf]; done) | (simp [intOf]; omega)
                  · have hd0 : decide (0 < a1) = true := by rw [decide_eq_true_eq]; omega
                    have hd00 : (0 : Int) < (a1 : Int) := by omega
                    obtain ⟨am, ham⟩ : ∃ am, am = a1 - 1 := ⟨_, rfl⟩
                    have e4 : (a1 : Int) - 1 = (am : Int) := by omega
                    have aml : am < 203 := by omega
                    have pvl : pv < 203 := by have := HPV.out; omega
                    clear ham
                    obtain ⟨L, hL⟩ := S5.out
                    have c1 := hL.cell aml
                    have c2 := hL.cell pvl
                    clear hL
                    cases hless : decide (tg L am < tg L pv)
                    · go_wp2
                      go_quiet (first | (go_at_call 59; refine Calls.quiet_of_same (less_v hless _)))
                      have S6 := Lib.hid (S5.out.drewN nq)
                      clear c1 c2 hless
                      generalize w5.drewN nq = w6 at *
                      go_wp2_with fail
                      refine (parteq_any S6.out.here a1 b1 pv (by omega) (by omega) pvl).mono ?_
                      rintro e w7 ⟨⟨m, rfl, hm1, hm2⟩, s7⟩
                      have S7 := Lib.hid (S6.out.then s7)
                      clear s7
                      go_wp2
                      go_roundw
                      case rel => exact ⟨m, b1, lim1, true, true, by omega, by omega, by omega, by omega, rfl, rfl, rfl, rfl, rfl, S7.out⟩
                      case measure => first | (simp [intOf]; done) | (simp [intOf]; omega)
                    · go_wp2
                      go_quiet (first | (go_at_call 59; refine Calls.quiet_of_same (less_v hless _)))
                      have S6 := Lib.hid (S5.out.drewN nq)
                      clear c1 c2 hless
                      generalize w5.drewN nq = w6 at *
                      as_aux_lemma =>
                        go_wp2_with fail
                        refine (part_any S6.out.here a1 b1 pv (by omega) (by omega) (by have := HPV.out; omega)).mono ?_
                        rintro e w7 ⟨⟨m, al, rfl, hm1, hm2⟩, s7⟩
                        have S7 := Lib.hid (S6.out.then s7)
                        clear s7
                        obtain ⟨ll, hll⟩ : ∃ ll, ll = m - a1 := ⟨_, rfl⟩
                        obtain ⟨rl, hrl⟩ : ∃ rl, rl = b1 - m := ⟨_, rfl⟩
                        have e5 : (m : Int) - (a1 : Int) = (ll : Int) := by omega
                        have e6 : (b1 : Int) - (m : Int) = (rl : Int) := by omega
                        obtain ⟨m1, hm⟩ : ∃ m1, m1 = m + 1 := ⟨_, rfl⟩
                        have e7 : (m : Int) + 1 = (m1 : Int) := by omega
                        have HLR := Lib.hid (And.intro hll (And.intro hrl hm))
                        have hmb : m < 203 := by omega
                        have hab1 : a1 ≤ 203 ∧ b1 ≤ 203 := by omega
                        clear hll hrl hm
                        by_cases hlr : ll < rl
                        · have hd1 : decide (ll < rl) = true := by rw [decide_eq_true_eq]; exact hlr
                          go_wp2_with fail
                          refine (IH.out w7 S7.out.here a1 m lim1 (by omega) (by omega) (by omega) (by omega)).mono ?_
                          rintro e w8 ⟨rfl, s8⟩
                          have S8 := Lib.hid (S7.out.then s8)
                          clear s8
                          go_wp2
                          all_goals
                            go_roundw
                            case rel => exact ⟨m1, b1, lim1, _, al, by have := HLR.out; omega, by omega, by have := HLR.out; omega, by omega, rfl, rfl, rfl, rfl, rfl, S8.out⟩
                            case measure => first | (simp [intOf]; done) | (simp [intOf]; have := HLR.out; omega)
                        · have hd1 : decide (ll < rl) = false := by rw [decide_eq_false_iff_not]; exact hlr
                          go_wp2_with fail
                          refine (IH.out w7 S7.out.here m1 b1 lim1 (by have := HLR.out; omega) (by omega) (by have := HLR.out; omega) (by omega)).mono ?_
                          rintro e w8 ⟨rfl, s8⟩
                          have S8 := Lib.hid (S7.out.then s8)
                          clear s8
                          go_wp2
                          all_goals
                            go_roundw
                            case rel => exact ⟨a1, m, lim1, _, al, by omega, by omega, by omega, by omega, rfl, rfl, rfl, rfl, rfl, S8.out⟩
                            case measure => first | (simp [intOf]; done) | (simp [intOf]; omega)
              · skip
                obtain ⟨pv, hpv⟩ : ∃ pv, pv = p := ⟨_, rfl⟩
                have HPV : Hid (a1 ≤ pv ∧ pv < b1) := Lib.hid (by omega)
                obtain rfl : pv = p := hpv
                clear hp1 hp2
                have S4 := S2
                go_wp2_with fail
                refine (partial_any S4.out.here a1 b1 (by omega) (by omega)).mono ?_
                rintro e w5 ⟨⟨fin, rfl⟩, s5⟩
                have S5 := Lib.hid (S4.out.then s5)
                clear s5
                cases fin
                · skip
                  as_aux_lemma =>
                    by_cases ha0 : a1 = 0
                    · have hd0 : decide (0 < a1) = false := by rw [decide_eq_false_iff_not]; omega
                      have hd00 : ¬ (0 : Int) < (a1 : Int) := by omega
                      clear ha0
                      go_wp2
                      all_goals try (exfalso; omega)
                      go_quiet (fail)
                      have S6 := Lib.hid (S5.out.drewN nq)
                      generalize w5.drewN nq = w6 at *
                      as_aux_lemma =>
                        go_wp2_with fail
                        refine (part_any S6.out.here a1 b1 pv (by omega) (by omega) (by have := HPV.out; omega)).mono ?_
                        rintro e w7 ⟨⟨m, al, rfl, hm1, hm2⟩, s7⟩
                        have S7 := Lib.hid (S6.out.then s7)
                        clear s7
                        obtain ⟨ll, hll⟩ : ∃ ll, ll = m - a1 := ⟨_, rfl⟩
                        obtain ⟨rl, hrl⟩ : ∃ rl, rl = b1 - m := ⟨_, rfl⟩
                        have e5 : (m : Int) - (a1 : Int) = (ll : Int) := by omega
                        have e6 : (b1 : Int) - (m : Int) = (rl : Int) := by omega
                        obtain ⟨m1, hm⟩ : ∃ m1, m1 = m + 1 := ⟨_, rfl⟩
                        have e7 : (m : Int) + 1 = (m1 : Int) := by omega
                        have HLR := Lib.hid (And.intro hll (And.intro hrl hm))
                        have hmb : m < 203 := by omega
                        have hab1 : a1 ≤ 203 ∧ b1 ≤ 203 := by omega
                        clear hll hrl hm
                        by_cases hlr : ll < rl
                        · have hd1 : decide (ll < rl) = true := by rw [decide_eq_true_eq]; exact hlr
                          go_wp2_with fail
                          refine (IH.out w7 S7.out.here a1 m lim1 (by omega) (by omega) (by omega) (by omega)).mono ?_
                          rintro e w8 ⟨rfl, s8⟩
                          have S8 := Lib.hid (S7.out.then s8)
                          clear s8
                          go_wp2
                          all_goals
                            go_roundw
                            case rel => exact ⟨m1, b1, lim1, _, al, by have := HLR.out; omega, by omega, by have := HLR.out; omega, by omega, rfl, rfl, rfl, rfl, rfl, S8.out⟩
                            case measure => first | (simp [intOf]; done) | (simp [intOf]; have := HLR.out; omega)
                        · have hd1 : decide (ll < rl) = false := by rw [decide_eq_false_iff_not]; exact hlr
                          go_wp2_with fail
                          refine (IH.out w7 S7.out.here m1 b1 lim1 (by have := HLR.out; omega) (by omega) (by have := HLR.out; omega) (by omega)).mono ?_
                          rintro e w8 ⟨rfl, s8⟩
                          have S8 := Lib.hid (S7.out.then s8)
                          clear s8
                          go_wp2
                          all_goals
                            go_roundw
                            case rel => exact ⟨a1, m, lim1, _, al, by omega, by omega, by omega, by omega, rfl, rfl, rfl, rfl, rfl, S8.out⟩
                            case measure => first | (simp [intOf]; done) | (simp [intOf]; omega)
                    · have hd0 : decide (0 < a1) = true := by rw [decide_eq_true_eq]; omega
                      have hd00 : (0 : Int) < (a1 : Int) := by omega
                      obtain ⟨am, ham⟩ : ∃ am, am = a1 - 1 := ⟨_, rfl⟩
                      have e4 : (a1 : Int) - 1 = (am : Int) := by omega
                      have aml : am < 203 := by omega
                      have pvl : pv < 203 := by have := HPV.out; omega
                      clear ham
                      obtain ⟨L, hL⟩ := S5.out
                      have c1 := hL.cell aml
                      have c2 := hL.cell pvl
                      clear hL
                      cases hless : decide (tg L am < tg L pv)
                      · go_wp2
                        go_quiet (first | (go_at_call 59; refine Calls.quiet_of_same (less_v hless _)))
                        have S6 := Lib.hid (S5.out.drewN nq)
                        clear c1 c2 hless
                        generalize w5.drewN nq = w6 at *
                        go_wp2_with fail
                        refine (parteq_any S6.out.here a1 b1 pv (by omega) (by omega) pvl).mono ?_
                        rintro e w7 ⟨⟨m, rfl, hm1, hm2⟩, s7⟩
                        have S7 := Lib.hid (S6.out.then s7)
                        clear s7
                        go_wp2
                        go_roundw
                        case rel => exact ⟨m, b1, lim1, true, true, by omega, by omega, by omega, by omega, rfl, rfl, rfl, rfl, rfl, S7.out⟩
                        case measure => first | (simp [intOf]; done) | (simp [intOf]; omega)
                      · go_wp2
                        go_quiet (first | (go_at_call 59; refine Calls.quiet_of_same (less_v hless _)))
                        have S6 := Lib.hid (S5.out.drewN nq)
                        clear c1 c2 hless
                        generalize w5.drewN nq = w6 at *
                        as_aux_lemma =>
                          go_wp2_with fail
                          refine (part_any S6.out.here a1 b1 pv (by omega) (by omega) (by have := HPV.out; omega)).mono ?_
                          rintro e w7 ⟨⟨m, al, rfl, hm1, hm2⟩, s7⟩
                          have S7 := Lib.hid (S6.out.then s7)
                          clear s7
                          obtain ⟨ll, hll⟩ : ∃ ll, ll = m - a1 := ⟨_, rfl⟩
                          obtain ⟨rl, hrl⟩ : ∃ rl, rl = b1 - m := ⟨_, rfl⟩
                          have e5 : (m : Int) - (a1 : Int) = (ll : Int) := by omega
                          have e6 : (b1 : Int) - (m : Int) = (rl : Int) := by omega
                          obtain ⟨m1, hm⟩ : ∃ m1, m1 = m + 1 := ⟨_, rfl⟩
                          have e7 : (m : Int) + 1 = (m1 : Int) := by omega
                          have HLR := Lib.hid (And.intro hll (And.intro hrl hm))
                          have hmb : m < 203 := by omega
                          have hab1 : a1 ≤ 203 ∧ b1 ≤ 203 := by omega
                          clear hll hrl hm
                          by_cases hlr : ll < rl
                          · have hd1 : decide (ll < rl) = true := by rw [decide_eq_true_eq]; exact hlr
                            go_wp2_with fail
                            refine (IH.out w7 S7.out.here a1 m lim1 (by omega) (by omega) (by omega) (by omega)).mono ?_
                            rintro e w8 ⟨rfl, s8⟩
                            have S8 := Lib.hid (S7.out.then s8)
                            clear s8
                            go_wp2
                            all_goals
                              go_roundw
                              case rel => exact ⟨m1, b1, lim1, _, al, by have := HLR.out; omega, by omega, by have := HLR.out; omega, by omega, rfl, rfl, rfl, rfl, rfl, S8.out⟩
                              case measure => first | (simp [intOf]; done) | (simp [intOf]; have := HLR.out; omega)
                          · have hd1 : decide (ll < rl) = false := by rw [decide_eq_false_iff_not]; exact hlr
                            go_wp2_with fail
                            refine (IH.out w7 S7.out.here m1 b1 lim1 (by have := HLR.out; omega) (by omega) (by have := HLR.out; omega) (by omega)).mono ?_
                            rintro e w8 ⟨rfl, s8⟩
                            have S8 := Lib.hid (S7.out.then s8)
                            clear s8
                            go_wp2
                            all_goals
                              go_roundw
                              case rel => exact ⟨a1, m, lim1, _, al, by omega, by omega, by omega, by omega, rfl, rfl, rfl, rfl, rfl, S8.out⟩
                              case measure => first | (simp [intOf]; done) | (simp [intOf]; omega)
                · go_wp2
                  refine bodyPost_ret (results_none rfl _ _ _) rfl ?_
                  exact ⟨rfl, S5.out⟩
              · skip
                go_wp2_with fail
                refine (rev_any S2.out.here a1 b1 (by omega)).mono ?_
                rintro e w3 ⟨rfl, s3⟩
                have S3 := Lib.hid (S2.out.then s3)
                clear s3
                obtain ⟨bm, hbm⟩ : ∃ bm, bm = b1 - 1 := ⟨_, rfl⟩
                have e8 : (b1 : Int) - 1 = (bm : Int) := by omega
                obtain ⟨pa, hpa⟩ : ∃ pa, pa = p - a1 := ⟨_, rfl⟩
                have e9 : (p : Int) - (a1 : Int) = (pa : Int) := by omega
                obtain ⟨pv, hpv⟩ : ∃ pv, pv = bm - pa := ⟨_, rfl⟩
                have e10 : (bm : Int) - (pa : Int) = (pv : Int) := by omega
                have HPV : Hid (a1 ≤ pv ∧ pv < b1) := Lib.hid (by omega)
                have hbnd : bm < 203 ∧ pa < 203 ∧ pv < 203 := by omega
                clear hbm hpa hpv hp1 hp2
                have S4 := S3
                go_wp2_with fail
                refine (partial_any S4.out.here a1 b1 (by omega) (by omega)).mono ?_
                rintro e w5 ⟨⟨fin, rfl⟩, s5⟩
                have S5 := Lib.hid (S4.out.then s5)
                clear s5
                cases fin
                · skip
                  as_aux_lemma =>
                    by_cases ha0 : a1 = 0
                    · have hd0 : decide (0 < a1) = false := by rw [decide_eq_false_iff_not]; omega
                      have hd00 : ¬ (0 : Int) < (a1 : Int) := by omega
                      clear ha0
                      go_wp2
                      all_goals try (exfalso; omega)
                      go_quiet (fail)
                      have S6 := Lib.hid (S5.out.drewN nq)
                      generalize w5.drewN nq = w6 at *
                      as_aux_lemma =>
                        go_wp2_with fail
                        refine (part_any S6.out.here a1 b1 pv (by omega) (by omega) (by have := HPV.out; omega)).mono ?_
                        rintro e w7 ⟨⟨m, al, rfl, hm1, hm2⟩, s7⟩
                        have S7 := Lib.hid (S6.out.then s7)
                        clear s7
                        obtain ⟨ll, hll⟩ : ∃ ll, ll = m - a1 := ⟨_, rfl⟩
                        obtain ⟨rl, hrl⟩ : ∃ rl, rl = b1 - m := ⟨_, rfl⟩
                        have e5 : (m : Int) - (a1 : Int) = (ll : Int) := by omega
                        have e6 : (b1 : Int) - (m : Int) = (rl : Int) := by omega
                        obtain ⟨m1, hm⟩ : ∃ m1, m1 = m + 1 := ⟨_, rfl⟩
                        have e7 : (m : Int) + 1 = (m1 : Int) := by omega
                        have HLR := Lib.hid (And.intro hll (And.intro hrl hm))
                        have hmb : m < 203 := by omega
                        have hab1 : a1 ≤ 203 ∧ b1 ≤ 203 := by omega
                        clear hll hrl hm
                        by_cases hlr : ll < rl
                        · have hd1 : decide (ll < rl) = true := by rw [decide_eq_true_eq]; exact hlr
                          go_wp2_with fail
                          refine (IH.out w7 S7.out.here a1 m lim1 (by omega) (by omega) (by omega) (by omega)).mono ?_
                          rintro e w8 ⟨rfl, s8⟩
                          have S8 := Lib.hid (S7.out.then s8)
                          clear s8
                          go_wp2
                          all_goals
                            go_roundw
                            case rel => exact ⟨m1, b1, lim1, _, al, by have := HLR.out; omega, by omega, by have := HLR.out; omega, by omega, rfl, rfl, rfl, rfl, rfl, S8.out⟩
                            case measure => first | (simp [intOf]; done) | (simp [intOf]; have := HLR.out; omega)
                        · have hd1 : decide (ll < rl) = false := by rw [decide_eq_false_iff_not]; exact hlr
                          go_wp2_with fail
                          refine (IH.out w7 S7.out.here m1 b1 lim1 (by have := HLR.out; omega) (by omega) (by have := HLR.out; omega) (by omega)).mono ?_
                          rintro e w8 ⟨rfl, s8⟩
                          have S8 := Lib.hid (S7.out.then s8)
                          clear s8
                          go_wp2
                          all_goals
                            go_roundw
                            case rel => exact ⟨a1, m, lim1, _, al, by omega, by omega, by omega, by omega, rfl, rfl, rfl, rfl, rfl, S8.out⟩
                            case measure => first | (simp [intOf]; done) | (simp [intOf]; omega)
                    · have hd0 : decide (0 < a1) = true := by rw [decide_eq_true_eq]; omega
                      have hd00 : (0 : Int) < (a1 : Int) := by omega
                      obtain ⟨am, ham⟩ : ∃ am, am = a1 - 1 := ⟨_, rfl⟩
                      have e4 : (a1 : Int) - 1 = (am : Int) := by omega
                      have aml : am < 203 := by omega
                      have pvl : pv < 203 := by have := HPV.out; omega
                      clear ham
                      obtain ⟨L, hL⟩ := S5.out
                      have c1 := hL.cell aml
                      have c2 := hL.cell pvl
                      clear hL
                      cases hless : decide (tg L am < tg L pv)
                      · go_wp2
                        go_quiet (first | (go_at_call 59; refine Calls.quiet_of_same (less_v hless _)))
                        have S6 := Lib.hid (S5.out.drewN nq)
                        clear c1 c2 hless
                        generalize w5.drewN nq = w6 at *
                        go_wp2_with fail
                        refine (parteq_any S6.out.here a1 b1 pv (by omega) (by omega) pvl).mono ?_
                        rintro e w7 ⟨⟨m, rfl, hm1, hm2⟩, s7⟩
                        have S7 := Lib.hid (S6.out.then s7)
                        clear s7
                        go_wp2
                        go_roundw
                        case rel => exact ⟨m, b1, lim1, true, true, by omega, by omega, by omega, by omega, rfl, rfl, rfl, rfl, rfl, S7.out⟩
                        case measure => first | (simp [intOf]; done) | (simp [intOf]; omega)
                      · go_wp2
                        go_quiet (first | (go_at_call 59; refine Calls.quiet_of_same (less_v hless _)))
                        have S6 := Lib.hid (S5.out.drewN nq)
                        clear c1 c2 hless
                        generalize w5.drewN nq = w6 at *
                        as_aux_lemma =>
                          go_wp2_with fail
                          refine (part_any S6.out.here a1 b1 pv (by omega) (by omega) (by have := HPV.out; omega)).mono ?_
                          rintro e w7 ⟨⟨m, al, rfl, hm1, hm2⟩, s7⟩
                          have S7 := Lib.hid (S6.out.then s7)
                          clear s7
                          obtain ⟨ll, hll⟩ : ∃ ll, ll = m - a1 := ⟨_, rfl⟩
                          obtain ⟨rl, hrl⟩ : ∃ rl, rl = b1 - m := ⟨_, rfl⟩
                          have e5 : (m : Int) - (a1 : Int) = (ll : Int) := by omega
                          have e6 : (b1 : Int) - (m : Int) = (rl : Int) := by omega
                          obtain ⟨m1, hm⟩ : ∃ m1, m1 = m + 1 := ⟨_, rfl⟩
                          have e7 : (m : Int) + 1 = (m1 : Int) := by omega
                          have HLR := Lib.hid (And.intro hll (And.intro hrl hm))
                          have hmb : m < 203 := by omega
                          have hab1 : a1 ≤ 203 ∧ b1 ≤ 203 := by omega
                          clear hll hrl hm
                          by_cases hlr : ll < rl
                          · have hd1 : decide (ll < rl) = true := by rw [decide_eq_true_eq]; exact hlr
                            go_wp2_with fail
                            refine (IH.out w7 S7.out.here a1 m lim1 (by omega) (by omega) (by omega) (by omega)).mono ?_
                            rintro e w8 ⟨rfl, s8⟩
                            have S8 := Lib.hid (S7.out.then s8)
                            clear s8
                            go_wp2
                            all_goals
                              go_roundw
                              case rel => exact ⟨m1, b1, lim1, _, al, by have := HLR.out; omega, by omega, by have := HLR.out; omega, by omega, rfl, rfl, rfl, rfl, rfl, S8.out⟩
                              case measure => first | (simp [intOf]; done) | (simp [intOf]; have := HLR.out; omega)
                          · have hd1 : decide (ll < rl) = false := by rw [decide_eq_false_iff_not]; exact hlr
                            go_wp2_with fail
                            refine (IH.out w7 S7.out.here m1 b1 lim1 (by have := HLR.out; omega) (by omega) (by have := HLR.out; omega) (by omega)).mono ?_
                            rintro e w8 ⟨rfl, s8⟩
                            have S8 := Lib.hid (S7.out.then s8)
                            clear s8
                            go_wp2
                            all_goals
                              go_roundw
                              case rel => exact ⟨a1, m, lim1, _, al, by omega, by omega, by omega, by omega, rfl, rfl, rfl, rfl, rfl, S8.out⟩
                              case measure => first | (simp [intOf]; done) | (simp [intOf]; omega)
                · go_wp2
                  refine bodyPost_ret (results_none rfl _ _ _) rfl ?_
                  exact ⟨rfl, S5.out⟩

end Go.Proofs.YtdkigiemhkoijaaDoor.Ino
