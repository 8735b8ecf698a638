/- Texts: the statements of lines, out of the program's contracts (which are premises here). -/
import Derived.Test.YtincpkncakppbaaDoorLinL
namespace Go.Proofs.YtincpkncakppbaaDoor.Lin
open Go.RowKit Go.Maps Go.Proofs.YtincpkncakppbaaDoor
set_option maxRecDepth 100000

theorem lcut_any {w : World} (s : ByteArray) : Calls Tryd.prog 6 #[.string s, .int .i64 300] w fun e w' => ∃ t : ByteArray, t.size ≤ 300 ∧ e = .returned (.string t) ∧ w = w' := by
  by_cases h : 300 < s.size
  · have hd : decide (300 < (s.size : Int)) = true := by rw [decide_eq_true_eq]; omega
    have hz : (300 : Int) ≤ (s.size : Int) := by omega
    have HT : Hid ((s.extract 0 300).size ≤ 300) := Lib.hid (by simp [ByteArray.size_extract]; omega)
    have h3 : 300 ≤ s.size := by omega
    go_enter Tryd.func6, Tryd.ntmps6
    go_wp2
    go_ret
    exact ⟨_, HT.out, rfl, rfl⟩
  · have hd : decide (300 < (s.size : Int)) = false := by rw [decide_eq_false_iff_not]; omega
    have HT : Hid (s.size ≤ 300) := Lib.hid (by omega)
    go_enter Tryd.func6, Tryd.ntmps6
    go_wp2
    go_ret
    exact ⟨s, HT.out, rfl, rfl⟩

structure SmR (w0 : World) (n : Nat) (iv : Value) (wr : World) : Prop where
  ex : ∃ k : Nat, k ≤ n ∧ iv = .int .i64 (k : Int) ∧ Keep (fun _ => False) w0 wr

/-- The same texts in two lists. -/
theorem same_any {w : World} {v1 v2 : Value} {L : List (List UInt8)} (hl : L.length < 1000000) (s1 : Seen w 1 v1 L.length (scells L)) (s2 : Seen w 1 v2 L.length (scells L)) :
    Calls Tryd.prog 9 #[v1, v2] w fun e w' => e = .returned (.bool true) ∧ Keep (fun _ => False) w w' := by
  obtain ⟨_, a1, c1, rfl, hc1, hc1', h1⟩ := s1
  obtain ⟨_, a2, c2, rfl, hc2, hc2', h2⟩ := s2
  unfold maxLen at hc1' hc2'
  have H1 := Lib.hid h1; have H2 := Lib.hid h2
  have hne : ((L.length : Int) != (L.length : Int)) = false := by simp
  clear h1 h2
  go_enter Tryd.func9, Tryd.ntmps9
  go_wp2_with fail
  go_loopw [5] (fun iv wr => SmR w L.length iv wr) (fun iv _ => L.length - (intOf iv).toNat)
  case atStart => exact ⟨0, by omega, rfl, Keep.refl _ _⟩
  case round =>
    obtain ⟨k, hk, rfl, hKr⟩ := hrel.ex
    have HKR := Lib.hid hKr
    clear hrel hKr
    by_cases hlt : k < L.length
    · have hd : decide (k < L.length) = true := by rw [decide_eq_true_eq]; omega
      obtain ⟨g1, o1, rfl, hg1, q1⟩ := H1.out.resolve_left (by omega)
      obtain ⟨g2, o2, rfl, hg2, q2⟩ := H2.out.resolve_left (by omega)
      have z1 := (HKR.out.cell hg1 (fun h => h) _).trans (q1 k _ (scells_get hlt))
      have z2 := (HKR.out.cell hg2 (fun h => h) _).trans (q2 k _ (scells_get hlt))
      obtain ⟨nm, hnm⟩ : ∃ nm : ByteArray, nm = ⟨L[k].toArray⟩ := ⟨_, rfl⟩
      rw [← hnm] at z1 z2
      clear q1 q2 hnm hg1 hg2
      have hq : (nm.toList != nm.toList) = false := by simp
      go_wp2_with fail
      go_region
      all_goals
        go_wp2_with fail
        go_roundw
        case rel => exact ⟨k + 1, by omega, by go_num, HKR.out.drew⟩
        case measure => simp [intOf]; omega
    · have hd : decide (k < L.length) = false := by rw [decide_eq_false_iff_not]; omega
      go_wp2_with fail
      go_ret
      exact ⟨rfl, HKR.out⟩

/-- What the program's functions answer (the promise). -/
structure LinOk (T : World → Prop) : Prop where
  keep : ∀ {w w'}, T w → Keep (fun _ => False) w w' → T w'
  words : ∀ {w} (s : ByteArray), T w → s.size ≤ 1000000 → Calls Tryd.prog 10 #[.string s] w (AnsL (wordsL s.data.toList) w)
  lines : ∀ {w} (s : ByteArray), T w → s.size ≤ 1000000 → Calls Tryd.prog 12 #[.string s] w (AnsL (linesL s.data.toList) w)
  number : ∀ {w} (s : ByteArray), T w → s.size ≤ 1000000 → Calls Tryd.prog 7 #[.string s] w fun e w' => e = numE s.data.toList ∧ Keep (fun _ => False) w w'
  print : ∀ {w} (z : Int), T w → -9223372036854775808 ≤ z → z ≤ 9223372036854775807 → Calls Tryd.prog 18 #[.int .i64 z] w fun e w' => (∃ t : ByteArray, e = .returned (.string t) ∧ t.data.toList = printL z) ∧ Keep (fun _ => False) w w'
  lower : ∀ {w} (s : ByteArray), T w → s.size ≤ 1000000 → Calls Tryd.prog 14 #[.string s] w fun e w' => e = .returned (.string ⟨(lowerL s.data.toList).toArray⟩) ∧ Keep (fun _ => False) w w'
  word : ∀ {w} (s : ByteArray), T w → s.size ≤ 1000000 → Calls Tryd.prog 16 #[.string s] w fun e w' => e = .returned (.bool (wordB s.data.toList)) ∧ Keep (fun _ => False) w w'

/-- Is a list the answer's? -/
theorem AnsL.get {L : List (List UInt8)} {w w' : World} {e : Ending} (h : AnsL L w e w') : ∃ v, e = .returned v ∧ Hid (Seen w' 1 v L.length (scells L)) ∧ Hid (Keep (fun _ => False) w w') := by
  obtain ⟨v, h1, h2, _, h4⟩ := h
  exact ⟨v, h1, Lib.hid h2.seen, Lib.hid h4⟩

theorem wordsGo_len (r : List UInt8) : ∀ cur, (wordsGo cur r).length ≤ r.length + 1 := by
  induction r with
  | nil => intro cur; unfold wordsGo; split <;> simp
  | cons c r ih =>
    intro cur
    cases h : isBlank c
    · rw [wordsGo_other h]; have := ih (cur ++ [c]); simp; omega
    · rw [wordsGo_blank h, List.length_append]; have := ih []; split <;> simp <;> omega
theorem linesGo_len (r : List UInt8) : ∀ cur, (linesGo cur r).length ≤ r.length + 1 := by
  induction r with
  | nil => intro cur; unfold linesGo; split <;> simp
  | cons c r ih =>
    intro cur
    by_cases h : c = 10
    · rw [h, linesGo_ten]; have := ih []; simp; omega
    · rw [linesGo_other h]; have := ih (cur ++ [c]); simp; omega

theorem w12 : wordsL [32, 97, 32, 32, 98, 99, 9] = [[97], [98, 99]] := by decide
theorem l12 : linesL [97, 13, 10, 10, 98] = [[97], [], [98]] := by decide
theorem n12 : numL [49, 48, 57, 57, 53, 49, 49, 54, 50, 55, 55, 55, 54] = some 1099511627776 := by decide
theorem p12 : printL (-7) = [45, 55] := by unfold printL; rw [if_pos (by omega), decL_lt (by decide)]; rfl

set_option maxHeartbeats 1000000 in
theorem begun12_any {T : World → Prop} (H : LinOk T) {w : World} (hT : T w) : Calls Tryd.prog 5 #[] w fun e w' => e = .returned (.bool true) ∧ Keep (fun _ => False) w w' := by
  have HH := Lib.hid H
  have HT := Lib.hid hT
  clear H hT
  have hz : decide (({ data := #[32, 97, 32, 32, 98, 99, 9] } : ByteArray).size ≤ 1000000) = true := by decide
  clear hz
  go_enter Tryd.func5, Tryd.ntmps5
  go_wp2_with fail
  refine (HH.out.words _ HT.out (by decide)).mono ?_
  rintro e w1 h
  obtain ⟨v, rfl, SV, K1⟩ := h.get
  clear h
  rw [show ({ data := #[32, 97, 32, 32, 98, 99, 9] } : ByteArray).data.toList = [32, 97, 32, 32, 98, 99, 9] from rfl, w12] at SV
  have T1 := Lib.hid (HH.out.keep HT.out K1.out)
  go_wp2_with fail
  refine (HH.out.number _ T1.out (by decide)).mono ?_
  rintro e w2 ⟨rfl, k2⟩
  have K2 := Lib.hid k2
  rw [show ({ data := #[49, 48, 57, 57, 53, 49, 49, 54, 50, 55, 55, 55, 54] } : ByteArray).data.toList = [49, 48, 57, 57, 53, 49, 49, 54, 50, 55, 55, 55, 54] from rfl, numE_some n12]
  have SV2 := Lib.hid (SV.out.keep k2 (fun _ _ _ h => h))
  have T2 := Lib.hid (HH.out.keep T1.out k2)
  clear k2
  obtain ⟨_, a1, c1, rfl, hc1, hc1', h1⟩ := SV2.out
  obtain ⟨g1, o1, rfl, hg1, q1⟩ := h1.resolve_left (by simp)
  have z1 := q1 1 _ (scells_get (L := [[97], [98, 99]]) (k := 1) (by simp))
  clear q1 h1 SV SV2
  unfold maxLen at hc1'
  have K12 := Lib.hid (K1.out.trans K2.out (fun _ h => h.elim))
  go_wp2_with (first
    | (go_at_call 18; (with_reducible refine (HH.out.print _ T2.out (by omega) (by omega)).mono ?_); rintro e w3 ⟨⟨t3, rfl, ht3⟩, k3⟩; rw [p12] at ht3; obtain rfl : t3 = ⟨#[45, 55]⟩ := (by rw [← str_eta t3, ht3]); have T3 := Lib.hid (HH.out.keep T2.out k3); have K3 := Lib.hid (K12.out.trans k3 (fun _ h => h.elim)); clear ht3 k3)
    | (go_at_call 14; (with_reducible refine (HH.out.lower _ T3.out (by decide)).mono ?_); rintro e w4 ⟨rfl, k4⟩; rw [show lowerL ({ data := #[65, 98, 90] } : ByteArray).data.toList = [97, 98, 122] from by decide]; have T4 := Lib.hid (HH.out.keep T3.out k4); have K4 := Lib.hid (K3.out.trans k4 (fun _ h => h.elim)); clear k4)
    | (go_at_call 16; (with_reducible refine (HH.out.word ({ data := #[97, 98, 99] } : ByteArray) T4.out (by decide)).mono ?_); rintro e w5 ⟨rfl, k5⟩; rw [show wordB ({ data := #[97, 98, 99] } : ByteArray).data.toList = true from by decide]; have T5 := Lib.hid (HH.out.keep T4.out k5); have K5 := Lib.hid (K4.out.trans k5 (fun _ h => h.elim)); clear k5)
    | (go_at_call 16; (with_reducible refine (HH.out.word ({ data := #[97, 66] } : ByteArray) T5.out (by decide)).mono ?_); rintro e w6 ⟨rfl, k6⟩; rw [show wordB ({ data := #[97, 66] } : ByteArray).data.toList = false from by decide]; have T6 := Lib.hid (HH.out.keep T5.out k6); have K6 := Lib.hid (K5.out.trans k6 (fun _ h => h.elim)); clear k6)
    | (go_at_call 12; (with_reducible refine (HH.out.lines _ T6.out (by decide)).mono ?_); rintro e w7 h7; rw [show linesL ({ data := #[97, 13, 10, 10, 98] } : ByteArray).data.toList = [[97], [], [98]] from l12] at h7; obtain ⟨v7, rfl, SV7, K7⟩ := h7.get; clear h7; obtain ⟨_, a7, c7, rfl, hc7, hc7', _⟩ := SV7.out))
  go_ret
  exact ⟨rfl, K6.out.trans K7.out (fun _ h => h.elim)⟩

set_option maxHeartbeats 1000000 in
theorem linesNumber_any {T : World → Prop} (H : LinOk T) {w : World} (hT : T w) (z : Int) (h1 : -9223372036854775808 ≤ z) (h2 : z ≤ 9223372036854775807) : Calls Tryd.prog 4 #[.int .i64 z] w fun e w' => e = .returned (.bool true) ∧ Keep (fun _ => False) w w' := by
  have HH := Lib.hid H
  have HT := Lib.hid hT
  have HP := Lib.hid (numL_print z)
  clear H hT
  go_enter Tryd.func4, Tryd.ntmps4
  go_wp2_with (go_at_call 5; (with_reducible refine (begun12_any HH.out HT.out).mono ?_); rintro e w1 ⟨rfl, k1⟩; have T1 := Lib.hid (HH.out.keep HT.out k1); have K1 := Lib.hid k1; clear k1)
  refine (HH.out.print _ T1.out h1 h2).mono ?_
  rintro e w2 ⟨⟨t, rfl, ht⟩, k2⟩
  have T2 := Lib.hid (HH.out.keep T1.out k2)
  have K2 := Lib.hid (K1.out.trans k2 (fun _ h => h.elim))
  have hts : t.size ≤ 1000000 := by
    have h := congrArg List.length ht
    rw [str_len] at h
    have hl := decL_len 18 z.natAbs (by omega)
    rw [h]; unfold printL; split
    · simp; omega
    · omega
  have HTT := Lib.hid ht
  clear ht k2
  have hnum := HH.out.number t T2.out hts
  rw [HTT.out] at hnum
  have HNUM := Lib.hid hnum
  clear hnum
  have HREF := Lib.hid (fun w : World => refPrint_any (w := w) z h1 h2)
  by_cases hm : 0 ≤ z ∧ z ≤ 1099511627776
  · have hn := HP.out
    rw [if_pos hm] at hn
    have hz : ((z.toNat : Nat) : Int) = z := by omega
    have d1 : decide (0 ≤ z) = true := by rw [decide_eq_true_eq]; omega
    have d2 : decide (z ≤ 1099511627776) = true := by rw [decide_eq_true_eq]; omega
    have HN := Lib.hid (numE_some hn)
    clear hn
    go_wp2_with fail
    refine HNUM.out.mono ?_
    rintro e w3 ⟨rfl, k3⟩
    rw [HN.out, hz]
    have K3 := Lib.hid (K2.out.trans k3 (fun _ h => h.elim))
    clear k3
    go_wp2_with (go_at_call 19; (with_reducible refine (HREF.out _).mono ?_); rintro e w4 ⟨⟨t4, rfl, ht4⟩, k4⟩; obtain rfl : t4 = t := (by rw [← str_eta t4, ← str_eta t, ht4, HTT.out]); have K4 := Lib.hid (K3.out.trans k4 (fun _ h => h.elim)); clear ht4 k4)
    go_ret
    exact ⟨rfl, K4.out⟩
  · have hn := HP.out
    rw [if_neg hm] at hn
    have HN := Lib.hid (numE_none hn)
    clear hn
    by_cases h0 : 0 ≤ z
    · have d1 : decide (0 ≤ z) = true := by rw [decide_eq_true_eq]; omega
      have d2 : decide (z ≤ 1099511627776) = false := by rw [decide_eq_false_iff_not]; omega
      clear hm
      go_wp2_with fail
      refine HNUM.out.mono ?_
      rintro e w3 ⟨rfl, k3⟩
      rw [HN.out]
      have K3 := Lib.hid (K2.out.trans k3 (fun _ h => h.elim))
      clear k3
      go_wp2_with (go_at_call 19; (with_reducible refine (HREF.out _).mono ?_); rintro e w4 ⟨⟨t4, rfl, ht4⟩, k4⟩; obtain rfl : t4 = t := (by rw [← str_eta t4, ← str_eta t, ht4, HTT.out]); have K4 := Lib.hid (K3.out.trans k4 (fun _ h => h.elim)); clear ht4 k4)
      go_ret
      exact ⟨rfl, K4.out⟩
    · have d1 : decide (0 ≤ z) = false := by rw [decide_eq_false_iff_not]; omega
      clear hm
      go_wp2_with fail
      refine HNUM.out.mono ?_
      rintro e w3 ⟨rfl, k3⟩
      rw [HN.out]
      have K3 := Lib.hid (K2.out.trans k3 (fun _ h => h.elim))
      clear k3
      go_wp2_with (go_at_call 19; (with_reducible refine (HREF.out _).mono ?_); rintro e w4 ⟨⟨t4, rfl, ht4⟩, k4⟩; obtain rfl : t4 = t := (by rw [← str_eta t4, ← str_eta t, ht4, HTT.out]); have K4 := Lib.hid (K3.out.trans k4 (fun _ h => h.elim)); clear ht4 k4)
      go_ret
      exact ⟨rfl, K4.out⟩

set_option maxHeartbeats 1000000 in
theorem linesAll_any {T : World → Prop} (H : LinOk T) {w : World} (hT : T w) (s : ByteArray) : Calls Tryd.prog 3 #[.string s] w fun e w' => e = .returned (.bool true) ∧ Keep (fun _ => False) w w' := by
  have HH := Lib.hid H
  have HT := Lib.hid hT
  clear H hT
  go_enter Tryd.func3, Tryd.ntmps3
  go_wp2_with (go_at_call 5; (with_reducible refine (begun12_any HH.out HT.out).mono ?_); rintro e w1 ⟨rfl, k1⟩; have T1 := Lib.hid (HH.out.keep HT.out k1); have K1 := Lib.hid k1; clear k1)
  refine (lcut_any s).mono ?_
  rintro e w' ⟨t, ht, rfl, rfl⟩
  have hts : t.size ≤ 1000000 := by omega
  obtain ⟨L, hL⟩ : ∃ L, L = wordsL t.data.toList := ⟨_, rfl⟩
  obtain ⟨M, hM⟩ : ∃ M, M = linesL t.data.toList := ⟨_, rfl⟩
  have hll : L.length < 1000000 := by
    have := wordsGo_len t.data.toList []
    rw [hL]; unfold wordsL; rw [str_len] at this; omega
  have hml : M.length < 1000000 := by
    have := linesGo_len t.data.toList []
    rw [hM]; unfold linesL; rw [str_len] at this; omega
  have HL := Lib.hid hL; have HM := Lib.hid hM
  have HTS := Lib.hid hts
  clear hL hM hts ht
  obtain ⟨n, ok, hnum⟩ : ∃ (n : Int) (ok : Bool), numE t.data.toList = .returned (.tuple #[.int .i64 n, .bool ok]) := ⟨_, _, rfl⟩
  have HNUM := Lib.hid hnum
  clear hnum
  obtain ⟨lo, hlo⟩ : ∃ lo : ByteArray, lo = ⟨(lowerL t.data.toList).toArray⟩ := ⟨_, rfl⟩
  have HLO := Lib.hid hlo
  obtain ⟨wo, hwo⟩ : ∃ wo : Bool, wo = wordB t.data.toList := ⟨_, rfl⟩
  have HWO := Lib.hid hwo
  clear hlo hwo
  have q1 : (n == n) = true := by simp
  have q2 : (ok == ok) = true := by simp
  have q3 : (lo.toList == lo.toList) = true := by simp
  have q4 : (wo == wo) = true := by simp
  go_wp2_with fail
  refine (HH.out.number t T1.out HTS.out).mono ?_
  rintro e w2 ⟨rfl, k2⟩
  rw [HNUM.out]
  have T2 := Lib.hid (HH.out.keep T1.out k2)
  have K2 := Lib.hid (K1.out.trans k2 (fun _ h => h.elim))
  clear k2
  go_wp2_with fail
  refine (refNumber_any t).mono ?_
  rintro e w3 ⟨rfl, rfl⟩
  rw [HNUM.out]
  go_wp2_with fail
  refine (HH.out.words t T2.out HTS.out).mono ?_
  rintro e w4 h4
  rw [← HL.out] at h4
  obtain ⟨v4, rfl, S4, k4⟩ := h4.get
  have T4 := Lib.hid (HH.out.keep T2.out k4.out)
  have K4 := Lib.hid (K2.out.trans k4.out (fun _ h => h.elim))
  clear h4 k4
  go_wp2_with fail
  refine (refWords_any t HTS.out).mono ?_
  rintro e w5 h5
  rw [← HL.out] at h5
  obtain ⟨v5, rfl, S5, k5⟩ := h5.get
  have T5 := Lib.hid (HH.out.keep T4.out k5.out)
  have K5 := Lib.hid (K4.out.trans k5.out (fun _ h => h.elim))
  have S4' := Lib.hid (S4.out.keep k5.out (fun _ _ _ h => h))
  clear h5 k5
  go_wp2_with fail
  refine (same_any hll S4'.out S5.out).mono ?_
  rintro e w6 ⟨rfl, k6⟩
  have T6 := Lib.hid (HH.out.keep T5.out k6)
  have K6 := Lib.hid (K5.out.trans k6 (fun _ h => h.elim))
  clear k6 S4 S4' S5
  go_wp2_with fail
  refine (HH.out.lines t T6.out HTS.out).mono ?_
  rintro e w7 h7
  rw [← HM.out] at h7
  obtain ⟨v7, rfl, S7, k7⟩ := h7.get
  have T7 := Lib.hid (HH.out.keep T6.out k7.out)
  have K7 := Lib.hid (K6.out.trans k7.out (fun _ h => h.elim))
  clear h7 k7
  go_wp2_with fail
  refine (refLines_any t HTS.out).mono ?_
  rintro e w8 h8
  rw [← HM.out] at h8
  obtain ⟨v8, rfl, S8, k8⟩ := h8.get
  have T8 := Lib.hid (HH.out.keep T7.out k8.out)
  have K8 := Lib.hid (K7.out.trans k8.out (fun _ h => h.elim))
  have S7' := Lib.hid (S7.out.keep k8.out (fun _ _ _ h => h))
  clear h8 k8
  go_wp2_with fail
  refine (same_any hml S7'.out S8.out).mono ?_
  rintro e w9 ⟨rfl, k9⟩
  have T9 := Lib.hid (HH.out.keep T8.out k9)
  have K9 := Lib.hid (K8.out.trans k9 (fun _ h => h.elim))
  clear k9 S7 S7' S8
  go_wp2_with fail
  refine (HH.out.lower t T9.out HTS.out).mono ?_
  rintro e w10 ⟨rfl, k10⟩
  rw [← HLO.out]
  have T10 := Lib.hid (HH.out.keep T9.out k10)
  have K10 := Lib.hid (K9.out.trans k10 (fun _ h => h.elim))
  clear k10
  go_wp2_with fail
  refine (refLower_any t HTS.out).mono ?_
  rintro e w11 ⟨rfl, k11⟩
  rw [← HLO.out]
  have T11 := Lib.hid (HH.out.keep T10.out k11)
  have K11 := Lib.hid (K10.out.trans k11 (fun _ h => h.elim))
  clear k11
  go_wp2_with fail
  refine (HH.out.word t T11.out HTS.out).mono ?_
  rintro e w12 ⟨rfl, k12⟩
  rw [← HWO.out]
  have K12 := Lib.hid (K11.out.trans k12 (fun _ h => h.elim))
  clear k12
  go_wp2_with fail
  refine (refWord_any t HTS.out).mono ?_
  rintro e w13 ⟨rfl, rfl⟩
  rw [← HWO.out]
  go_wp2_with fail
  go_ret
  exact ⟨rfl, K12.out⟩

end Go.Proofs.YtincpkncakppbaaDoor.Lin
