/- Sorting in place: by a heap. -/
import Derived.Test.YtdkigiemhkoijaaDoorSrtB
namespace Go.Proofs.YtdkigiemhkoijaaDoor.Ino
open Go.RowKit Go.Maps Go.Proofs.YtdkigiemhkoijaaDoor
set_option maxRecDepth 100000

theorem SR.drewN {w0 wr : World} {g : Nat} {t : TypeId} (h : SR w0 g t wr) (n : Nat) : SR w0 g t (wr.drewN n) := by obtain ⟨L, hL⟩ := h; exact ⟨L, hL.drewN n⟩
theorem SR.drew {w0 wr : World} {g : Nat} {t : TypeId} (h : SR w0 g t wr) : SR w0 g t wr.drew := by obtain ⟨L, hL⟩ := h; exact ⟨L, hL.drew⟩
theorem SR.here {w0 wr : World} {g : Nat} {t : TypeId} (h : SR w0 g t wr) : SR wr g t wr := by obtain ⟨L, hL⟩ := h; exact ⟨L, Srt.refl hL.len hL.inj hL.heap⟩
theorem SR.then {w0 wa wr : World} {g : Nat} {t : TypeId} (h : SR w0 g t wa) (k : SR wa g t wr) : SR w0 g t wr := by obtain ⟨L, hL⟩ := h; obtain ⟨M, hM⟩ := k; exact ⟨M, hM.from hL.keep⟩

structure SiftR (w : World) (g : Nat) (t : TypeId) (iv : Value) (wr : World) : Prop where
  ex : ∃ r : Nat, r ≤ 203 ∧ iv = .int .i64 (r : Int) ∧ SR w g t wr

theorem sift_any {w : World} {g : Nat} {t : TypeId} (h : SR w g t w) (lo hi f : Nat) (hf : f + hi ≤ 203) (hlo : lo ≤ 203) :
    Calls Tryd.prog 65 #[tabS g, .int .i64 (lo : Int), .int .i64 (hi : Int), .int .i64 (f : Int)] w fun e w' => e = .returned (.tuple #[]) ∧ SR w g t w' := by
  have H := Lib.hid h
  clear h
  go_enter Tryd.func65, Tryd.ntmps65
  go_wp2
  go_loopw [8] (fun iv wr => SiftR w g t iv wr) (fun iv _ => 500 - (intOf iv).toNat)
  case atStart => exact ⟨lo, hlo, rfl, H.out⟩
  case round =>
    obtain ⟨r, hr, rfl, L, hL⟩ := hrel.ex
    obtain ⟨c, hcc⟩ : ∃ c, c = 2 * r + 1 := ⟨_, rfl⟩
    have e1 : 2 * (r : Int) + 1 = (c : Int) := by omega
    have HC := Lib.hid hcc
    by_cases hc : c < hi
    · have d1 : decide (hi ≤ c) = false := by rw [decide_eq_false_iff_not]; omega
      obtain ⟨x, hx⟩ : ∃ x, x = f + c := ⟨_, rfl⟩
      have e2 : (f : Int) + (c : Int) = (x : Int) := by omega
      obtain ⟨y, hy⟩ : ∃ y, y = f + c + 1 := ⟨_, rfl⟩
      have e3 : (x : Int) + 1 = (y : Int) := by omega
      obtain ⟨z, hz⟩ : ∃ z, z = f + r := ⟨_, rfl⟩
      have e4 : (f : Int) + (r : Int) = (z : Int) := by omega
      have hxl : x < 203 := by omega
      have hzl : z < 203 := by omega
      have HX := Lib.hid hx; have HY := Lib.hid hy; have HZ := Lib.hid hz
      clear hx hy hz hcc hrel
      obtain ⟨c', hc'⟩ : ∃ c', c' = c + 1 := ⟨_, rfl⟩
      have e5 : (c : Int) + 1 = (c' : Int) := by omega
      have hpath : (∃ d v, c' < hi ∧ tg L x < tg L y ∧ y < 203 ∧ d = c' ∧ v = y) ∨ (∃ d v, c' < hi ∧ ¬ tg L x < tg L y ∧ y < 203 ∧ d = c ∧ v = x) ∨ (∃ d v, ¬ c' < hi ∧ d = c ∧ v = x) := by
        by_cases h1 : c' < hi
        · by_cases h2 : tg L x < tg L y
          · exact .inl ⟨c', y, h1, h2, by have := HY.out; omega, rfl, rfl⟩
          · exact .inr (.inl ⟨c, x, h1, h2, by have := HY.out; omega, rfl, rfl⟩)
        · exact .inr (.inr ⟨c, x, h1, rfl, rfl⟩)
      have HC' := Lib.hid hc'
      clear hc'
      have hdv : ∀ d v, (c' < hi ∧ d = c' ∧ v = y) ∨ (d = c ∧ v = x) → d < hi ∧ r < d ∧ v = f + d ∧ v < 203 := fun d v hh => by
        have := HC.out; have := HC'.out; have := HX.out; have := HY.out; omega
      rcases hpath with ⟨d, v, h1, h2, h3, hd, hv⟩ | ⟨d, v, h1, h2, h3, hd, hv⟩ | ⟨d, v, h1, hd, hv⟩
      · have hdd := hdv d v (.inl ⟨h1, hd, hv⟩)
        have d2 : decide (c' < hi) = true := by rw [decide_eq_true_eq]; omega
        have d3 : decide (tg L x < tg L y) = true := by rw [decide_eq_true_eq]; exact h2
        have c1 := hL.cell hxl
        have c2 := hL.cell h3
        have HDD := Lib.hid hdd
        have HDC := Lib.hid hd; have HDV := Lib.hid hv
        clear hd hv h1 h2 hdd hdv
        go_wp2
        go_quiet (first | (go_at_call 59; refine Calls.quiet_of_same (less_q _ _ _)))
        replace hL := hL.drewN nq
        clear c1 c2 d1 d3
        generalize wr.drewN nq = wq at *
        obtain rfl : d = c' := HDC.out
        obtain rfl : v = y := HDV.out
        clear HDC HDV
        have e6 : (f : Int) + (d : Int) = (v : Int) := by have := HDD.out; omega
        have c1 := hL.cell hzl
        have c2 := hL.cell HDD.out.2.2.2
        cases hless : decide (tg L z < tg L v)
        · have HL : Hid (∀ n, SR w g t (wq.drewN n)) := Lib.hid (fun n => ⟨L, hL.drewN n⟩)
          go_wp2
          go_quiet (first | (go_at_call 59; refine Calls.quiet_of_same (less_q _ _ _)))
          go_wp2
          refine bodyPost_ret (results_none rfl _ _ _) rfl ?_
          exact ⟨rfl, HL.out _⟩
        · go_wp2
          go_quiet (first | (go_at_call 59; refine Calls.quiet_of_same (less_q _ _ _)))
          replace hL := hL.drewN nq
          clear c1 c2
          generalize wq.drewN nq = wp at *
          have c1 := hL.cell hzl
          have c2 := hL.cell HDD.out.2.2.2
          have f1 := hL.free z
          have f2 := hL.free v
          have HSW : Hid (SR w g t _) := Lib.hid ⟨_, (hL.swap (i := z) (j := v) hzl HDD.out.2.2.2).drew⟩
          clear hL
          go_wp2
          go_region
          all_goals go_wp2
          all_goals
            go_roundw
            case rel => exact ⟨d, by have := HDD.out; omega, rfl, HSW.out⟩
            case measure => simp [intOf]; have := HDD.out; omega
      · have hdd := hdv d v (.inr ⟨hd, hv⟩)
        have d2 : decide (c' < hi) = true := by rw [decide_eq_true_eq]; omega
        have d3 : decide (tg L x < tg L y) = false := by rw [decide_eq_false_iff_not]; exact h2
        have c1 := hL.cell hxl
        have c2 := hL.cell h3
        have HDD := Lib.hid hdd
        have HDC := Lib.hid hd; have HDV := Lib.hid hv
        clear hd hv h1 h2 hdd hdv
        go_wp2
        go_quiet (first | (go_at_call 59; refine Calls.quiet_of_same (less_q _ _ _)))
        replace hL := hL.drewN nq
        clear c1 c2 d1 d3
        generalize wr.drewN nq = wq at *
        obtain rfl : d = c := HDC.out
        obtain rfl : v = x := HDV.out
        clear HDC HDV
        have e6 : (f : Int) + (d : Int) = (v : Int) := by have := HDD.out; omega
        have c1 := hL.cell hzl
        have c2 := hL.cell HDD.out.2.2.2
        cases hless : decide (tg L z < tg L v)
        · have HL : Hid (∀ n, SR w g t (wq.drewN n)) := Lib.hid (fun n => ⟨L, hL.drewN n⟩)
          go_wp2
          go_quiet (first | (go_at_call 59; refine Calls.quiet_of_same (less_q _ _ _)))
          go_wp2
          refine bodyPost_ret (results_none rfl _ _ _) rfl ?_
          exact ⟨rfl, HL.out _⟩
        · go_wp2
          go_quiet (first | (go_at_call 59; refine Calls.quiet_of_same (less_q _ _ _)))
          replace hL := hL.drewN nq
          clear c1 c2
          generalize wq.drewN nq = wp at *
          have c1 := hL.cell hzl
          have c2 := hL.cell HDD.out.2.2.2
          have f1 := hL.free z
          have f2 := hL.free v
          have HSW : Hid (SR w g t _) := Lib.hid ⟨_, (hL.swap (i := z) (j := v) hzl HDD.out.2.2.2).drew⟩
          clear hL
          go_wp2
          go_region
          all_goals go_wp2
          all_goals
            go_roundw
            case rel => exact ⟨d, by have := HDD.out; omega, rfl, HSW.out⟩
            case measure => simp [intOf]; have := HDD.out; omega
      · have hdd := hdv d v (.inr ⟨hd, hv⟩)
        have d2 : decide (c' < hi) = false := by rw [decide_eq_false_iff_not]; omega
        have HDD := Lib.hid hdd
        have HDC := Lib.hid hd; have HDV := Lib.hid hv
        clear hd hv h1 hdd hdv
        go_wp2
        go_quiet (fail)
        replace hL := hL.drewN nq
        clear d1
        generalize wr.drewN nq = wq at *
        obtain rfl : d = c := HDC.out
        obtain rfl : v = x := HDV.out
        clear HDC HDV
        have e6 : (f : Int) + (d : Int) = (v : Int) := by have := HDD.out; omega
        have c1 := hL.cell hzl
        have c2 := hL.cell HDD.out.2.2.2
        cases hless : decide (tg L z < tg L v)
        · have HL : Hid (∀ n, SR w g t (wq.drewN n)) := Lib.hid (fun n => ⟨L, hL.drewN n⟩)
          go_wp2
          go_quiet (first | (go_at_call 59; refine Calls.quiet_of_same (less_q _ _ _)))
          go_wp2
          refine bodyPost_ret (results_none rfl _ _ _) rfl ?_
          exact ⟨rfl, HL.out _⟩
        · go_wp2
          go_quiet (first | (go_at_call 59; refine Calls.quiet_of_same (less_q _ _ _)))
          replace hL := hL.drewN nq
          clear c1 c2
          generalize wq.drewN nq = wp at *
          have c1 := hL.cell hzl
          have c2 := hL.cell HDD.out.2.2.2
          have f1 := hL.free z
          have f2 := hL.free v
          have HSW : Hid (SR w g t _) := Lib.hid ⟨_, (hL.swap (i := z) (j := v) hzl HDD.out.2.2.2).drew⟩
          clear hL
          go_wp2
          go_region
          all_goals go_wp2
          all_goals
            go_roundw
            case rel => exact ⟨d, by have := HDD.out; omega, rfl, HSW.out⟩
            case measure => simp [intOf]; have := HDD.out; omega
    · have d1 : decide (hi ≤ c) = true := by rw [decide_eq_true_eq]; omega
      have HL : Hid (SR w g t wr) := Lib.hid ⟨L, hL⟩
      clear hL hrel hcc
      go_wp2
      go_end0
      exact ⟨rfl, HL.out⟩

end Go.Proofs.YtdkigiemhkoijaaDoor.Ino
