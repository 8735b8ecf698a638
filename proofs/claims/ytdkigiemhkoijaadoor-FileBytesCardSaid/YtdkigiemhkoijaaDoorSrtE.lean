/- Sorting in place: the pivot. -/
import Derived.Test.YtdkigiemhkoijaaDoorSrtD
namespace Go.Proofs.YtdkigiemhkoijaaDoor.Ino
open Go.RowKit Go.Maps Go.Proofs.YtdkigiemhkoijaaDoor
set_option maxRecDepth 100000

/-- A cell of its own counts the swaps. -/
def Cnt (w : World) (q m : Nat) : Prop := ∃ (n : Nat) (t : TypeId), n ≤ m ∧ w.heap[q]? = some (.cells #[.int .i64 (n : Int)] t (0, 0))

theorem kdn (w : World) (n : Nat) {F : Nat → Prop} : Keep F w (w.drewN n) := ⟨rfl, rfl, rfl, Nat.le_refl _, fun _ _ _ => rfl⟩

theorem less_v {w : World} {x y : Nat} {bv : Bool} (h : decide (x < y) = bv) (nn : Nat) : Calls Tryd.prog 59 #[.int .u32 (x : Int), .int .u32 (y : Int)] (w.drewN nn) fun e w' => e = .returned (.bool bv) ∧ w' = w.drewN nn := by
  rw [← h]; exact less_q x y nn

theorem order2_any {w : World} {g : Nat} {t : TypeId} {q m : Nat} (h : SR w g t w) (hq : Cnt w q m) (hm : m ≤ 1000) (a b : Nat) (ha : a < 203) (hb : b < 203) :
    Calls Tryd.prog 71 #[tabS g, .int .i64 (a : Int), .int .i64 (b : Int), .pointer (some ⟨q, 0, none⟩)] w fun e w' => ∃ a' b' : Nat, e = .returned (.tuple #[.int .i64 (a' : Int), .int .i64 (b' : Int)]) ∧ ((a' = a ∧ b' = b) ∨ (a' = b ∧ b' = a)) ∧ Keep (fun x => x = q) w w' ∧ Cnt w' q (m + 1) := by
  obtain ⟨L, hL⟩ := h
  obtain ⟨n, tq, hn, hh⟩ := hq
  have c1 := hL.cell ha
  have c2 := hL.cell hb
  have HH := Lib.hid hh
  clear hL
  cases hless : decide (tg L b < tg L a)
  · go_enter Tryd.func71, Tryd.ntmps71
    go_wp2
    go_quiet (first | (go_at_call 59; refine Calls.quiet_of_same (less_v hless _)))
    go_wp2
    go_ret2
    exact ⟨_, _, rfl, .inl ⟨rfl, rfl⟩, kdn _ _, n, tq, by omega, HH.out⟩
  · go_enter Tryd.func71, Tryd.ntmps71
    go_wp2
    go_quiet (first | (go_at_call 59; refine Calls.quiet_of_same (less_v hless _)))
    have H2 : Hid ((w.drewN nq).heap[q]? = some (.cells #[.int .i64 (n : Int)] tq (0, 0))) := Lib.hid HH.out
    have K2 : Hid (Keep (fun x => x = q) w (w.drewN nq)) := Lib.hid (kdn _ _)
    generalize w.drewN nq = wq at *
    have q1 : wq.cell? ⟨q, 0, none⟩ = some (.int .i64 (n : Int)) := (cell_of_row _ _ _ _ _ _ H2.out).trans rfl
    have q2 := frozen_of_row _ _ 0 _ _ H2.out
    have hs := heap_setCell_at (i := 0) (.int .i64 ((n : Int) + 1)) H2.out
    have HS : Hid (Cnt (wq.setCell ⟨q, 0, none⟩ (.int .i64 ((n : Int) + 1))) q (m + 1)) := Lib.hid ⟨n + 1, tq, by omega, by simpa using hs⟩
    have hb2 : (n : Int) ≤ 1000 := by omega
    clear hh hs
    go_wp2
    go_ret2
    exact ⟨_, _, rfl, .inr ⟨rfl, rfl⟩, K2.out.setCell _ _ (.inl rfl), HS.out⟩

theorem SR.keepq {w0 w w' : World} {g : Nat} {t : TypeId} {q : Nat} (h : SR w0 g t w) (k : Keep (fun x => x = q) w w') (hqg : q ≠ g) : SR w' g t w' := by
  obtain ⟨L, hL⟩ := h
  exact ⟨L, Srt.refl hL.len hL.inj ((k.block g (lt_of_block hL.heap) (fun e => hqg e.symm)).trans hL.heap)⟩

theorem SR.past {w0 w w' : World} {g : Nat} {t : TypeId} {q : Nat} (h : SR w0 g t w) (k : Keep (fun x => x = q) w w') (hq : w0.heap.size ≤ q) (hqg : q ≠ g) : SR w0 g t w' := by
  obtain ⟨L, hL⟩ := h
  exact ⟨L, hL.len, hL.inj, (k.block g (lt_of_block hL.heap) (fun e => hqg e.symm)).trans hL.heap, hL.keep.trans k (fun x hx => .inr (by omega))⟩

theorem median_any {w : World} {g : Nat} {t : TypeId} {q m : Nat} (h : SR w g t w) (hq : Cnt w q m) (hm : m ≤ 900) (hqg : q ≠ g) (a b c : Nat) (ha : a < 203) (hb : b < 203) (hc : c < 203) :
    Calls Tryd.prog 69 #[tabS g, .int .i64 (a : Int), .int .i64 (b : Int), .int .i64 (c : Int), .pointer (some ⟨q, 0, none⟩)] w fun e w' => ∃ d : Nat, e = .returned (.int .i64 (d : Int)) ∧ (d = a ∨ d = b ∨ d = c) ∧ Keep (fun x => x = q) w w' ∧ Cnt w' q (m + 3) := by
  have H := Lib.hid h; have HQ := Lib.hid hq
  clear h hq
  go_enter Tryd.func69, Tryd.ntmps69
  go_wp2_with fail
  refine (order2_any H.out HQ.out (by omega) a b ha hb).mono ?_
  rintro e w1 ⟨a1, b1, rfl, h1, k1, q1⟩
  have H1 := Lib.hid (H.out.keepq k1 hqg); have K1 := Lib.hid k1; have Q1 := Lib.hid q1; have E1 := Lib.hid h1
  clear h1 k1 q1
  go_wp2_with fail
  refine (order2_any H1.out Q1.out (by omega) b1 c (by have := E1.out; omega) hc).mono ?_
  rintro e w2 ⟨b2, c2, rfl, h2, k2, q2⟩
  have H2 := Lib.hid (H1.out.keepq k2 hqg); have K2 := Lib.hid k2; have Q2 := Lib.hid q2; have E2 := Lib.hid h2
  clear h2 k2 q2
  go_wp2_with fail
  refine (order2_any H2.out Q2.out (by omega) a1 b2 (by have := E1.out; omega) (by have := E1.out; have := E2.out; omega)).mono ?_
  rintro e w3 ⟨a3, b3, rfl, h3, k3, q3⟩
  have K3 := Lib.hid k3; have Q3 := Lib.hid q3; have E3 := Lib.hid h3
  clear h3 k3 q3
  go_wp2_with fail
  go_ret
  exact ⟨b3, rfl, by have := E1.out; have := E2.out; have := E3.out; omega, (K1.out.trans K2.out (fun _ h => .inl h)).trans K3.out (fun _ h => .inl h), Q3.out⟩

theorem medadj_any {w : World} {g : Nat} {t : TypeId} {q m : Nat} (h : SR w g t w) (hq : Cnt w q m) (hm : m ≤ 900) (hqg : q ≠ g) (a : Nat) (ha0 : 0 < a) (ha : a + 1 < 203) :
    Calls Tryd.prog 68 #[tabS g, .int .i64 (a : Int), .pointer (some ⟨q, 0, none⟩)] w fun e w' => ∃ d : Nat, e = .returned (.int .i64 (d : Int)) ∧ (a ≤ d + 1 ∧ d ≤ a + 1) ∧ Keep (fun x => x = q) w w' ∧ Cnt w' q (m + 3) := by
  obtain ⟨b, hb⟩ : ∃ b, b = a - 1 := ⟨_, rfl⟩
  obtain ⟨c, hc⟩ : ∃ c, c = a + 1 := ⟨_, rfl⟩
  have e1 : (a : Int) - 1 = (b : Int) := by omega
  have e2 : (a : Int) + 1 = (c : Int) := by omega
  have HM := Lib.hid (median_any h hq hm hqg b a c (by omega) (by omega) (by omega))
  have HB := Lib.hid hb; have HC := Lib.hid hc
  clear h hq hb hc
  go_enter Tryd.func68, Tryd.ntmps68
  go_wp2_with fail
  refine HM.out.mono ?_
  rintro e w1 ⟨d, rfl, h1, k1, q1⟩
  have K1 := Lib.hid k1; have Q1 := Lib.hid q1; have E1 := Lib.hid h1
  clear h1 k1 q1
  go_wp2_with fail
  go_ret
  exact ⟨d, rfl, by have := E1.out; have := HB.out; have := HC.out; omega, K1.out, Q1.out⟩

theorem pivot_any {w : World} {g : Nat} {t : TypeId} (h : SR w g t w) (a b : Nat) (hab : a + 12 < b) (hb : b ≤ 203) :
    Calls Tryd.prog 56 #[tabS g, .int .i64 (a : Int), .int .i64 (b : Int)] w fun e w' => (∃ (p : Nat) (z : Int), e = .returned (.tuple #[.int .i64 (p : Int), .int .i64 z]) ∧ a ≤ p ∧ p < b ∧ (z = 0 ∨ z = 1 ∨ z = 2)) ∧ SR w g t w' := by
  have H := Lib.hid h
  have hgw : g < w.heap.size := by obtain ⟨L, hL⟩ := h; exact lt_of_block hL.heap
  clear h
  obtain ⟨l, hl⟩ : ∃ l, l = b - a := ⟨_, rfl⟩
  have e1 : (b : Int) - (a : Int) = (l : Int) := by omega
  obtain ⟨i, hi⟩ : ∃ i, i = a + l / 4 := ⟨_, rfl⟩
  obtain ⟨j, hj⟩ : ∃ j, j = a + l / 4 * 2 := ⟨_, rfl⟩
  obtain ⟨k, hk⟩ : ∃ k, k = a + l / 4 * 3 := ⟨_, rfl⟩
  obtain ⟨f, hf⟩ : ∃ f, f = l / 4 := ⟨_, rfl⟩
  have e2 : (l : Int) / 4 = (f : Int) := by omega
  have e3 : (a : Int) + (f : Int) = (i : Int) := by omega
  have e4 : (a : Int) + (f : Int) * 2 = (j : Int) := by omega
  have e5 : (a : Int) + (f : Int) * 3 = (k : Int) := by omega
  have hll : 12 < l := by omega
  have hbd : a + 2 ≤ i ∧ i ≤ j ∧ j ≤ k ∧ k + 2 ≤ b := by omega
  have d1 : decide (8 ≤ (l : Int)) = true := by rw [decide_eq_true_eq]; omega
  have hal : l = b - a := hl
  have hfl : f ≤ 203 := by omega
  clear hl hi hj hk hf
  have HBD := Lib.hid hbd
  have HAL := Lib.hid hal
  clear hbd hal
  have Q0 : Hid (Cnt (w.alloc (.cells #[.int .i64 0] 3)) w.heap.size 0) := Lib.hid ⟨0, 3, by omega, heap_alloc_new w _⟩
  have S0 : Hid (SR w g t (w.alloc (.cells #[.int .i64 0] 3))) := Lib.hid (by
    obtain ⟨L, hL⟩ := H.out
    have k : Keep (fun x => x = g) w (w.alloc (.cells #[.int .i64 0] 3)) := (Keep.refl _ w).alloc _
    exact ⟨L, hL.len, hL.inj, heap_past hL.heap, k⟩)
  have hqg : w.heap.size ≠ g := by omega
  by_cases h50 : l < 50
  · have d2 : decide (50 ≤ (l : Int)) = false := by rw [decide_eq_false_iff_not]; omega
    go_enter Tryd.func56, Tryd.ntmps56
    go_wp2_with fail
    refine (median_any S0.out.here Q0.out (by omega) hqg i j k (by have := HBD.out; omega) (by have := HBD.out; omega) (by have := HBD.out; omega)).mono ?_
    rintro e w8 ⟨d, rfl, hd8, k8, n8, t8, hn8, q8⟩
    have hfin : Hid (SR w g t w8) := Lib.hid (SR.past S0.out k8 (Nat.le_refl _) hqg)
    have c8 : w8.cell? ⟨w.heap.size, 0, none⟩ = some (.int .i64 (n8 : Int)) := (cell_of_row _ _ _ _ _ _ q8).trans rfl
    have HD8 : Hid (a ≤ d ∧ d < b) := Lib.hid (by have := HBD.out; omega)
    clear k8 q8 hd8
    go_wp2
    all_goals go_ret2
    all_goals exact ⟨⟨_, _, rfl, HD8.out.1, HD8.out.2, by simp⟩, hfin.out⟩
  · have d2 : decide (50 ≤ (l : Int)) = true := by rw [decide_eq_true_eq]; omega
    go_enter Tryd.func56, Tryd.ntmps56
    go_wp2_with fail
    refine (medadj_any S0.out.here Q0.out (by omega) hqg i (by have := HBD.out; omega) (by have := HBD.out; omega)).mono ?_
    rintro e w1 ⟨i1, rfl, hi1, k1, q1⟩
    have S1 := Lib.hid (SR.past S0.out k1 (Nat.le_refl _) hqg); have Q1 := Lib.hid q1; have HI := Lib.hid hi1
    clear k1 q1 hi1
    go_wp2_with fail
    refine (medadj_any S1.out.here Q1.out (by omega) hqg j (by have := HBD.out; omega) (by have := HBD.out; omega)).mono ?_
    rintro e w2 ⟨j1, rfl, hj1, k2, q2⟩
    have S2 := Lib.hid (SR.past S1.out k2 (Nat.le_refl _) hqg); have Q2 := Lib.hid q2; have HJ := Lib.hid hj1
    clear k2 q2 hj1
    go_wp2_with fail
    refine (medadj_any S2.out.here Q2.out (by omega) hqg k (by have := HBD.out; omega) (by have := HBD.out; omega)).mono ?_
    rintro e w3 ⟨k1, rfl, hk1, k3, q3⟩
    have S3 := Lib.hid (SR.past S2.out k3 (Nat.le_refl _) hqg); have Q3 := Lib.hid q3; have HK := Lib.hid hk1
    clear k3 q3 hk1
    go_wp2_with fail
    refine (median_any S3.out.here Q3.out (by omega) hqg i1 j1 k1 (by have := HBD.out; have := HI.out; omega) (by have := HBD.out; have := HJ.out; omega) (by have := HBD.out; have := HK.out; omega)).mono ?_
    rintro e w8 ⟨d, rfl, hd8, k8, n8, t8, hn8, q8⟩
    have hfin : Hid (SR w g t w8) := Lib.hid (SR.past S3.out k8 (Nat.le_refl _) hqg)
    have c8 : w8.cell? ⟨w.heap.size, 0, none⟩ = some (.int .i64 (n8 : Int)) := (cell_of_row _ _ _ _ _ _ q8).trans rfl
    have HD8 : Hid (a ≤ d ∧ d < b) := Lib.hid (by have := HBD.out; have := HI.out; have := HJ.out; have := HK.out; omega)
    clear k8 q8 hd8
    go_wp2
    all_goals go_ret2
    all_goals exact ⟨⟨_, _, rfl, HD8.out.1, HD8.out.2, by simp⟩, hfin.out⟩

end Go.Proofs.YtdkigiemhkoijaaDoor.Ino
