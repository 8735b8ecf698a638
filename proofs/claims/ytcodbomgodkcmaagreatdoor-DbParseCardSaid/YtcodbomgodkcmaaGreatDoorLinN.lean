/- Texts: the program's Print and Number. -/
import Derived.Test.YtcodbomgodkcmaaGreatDoorLinG
import Derived.Test.YtcodbomgodkcmaaGreatDoorLay12
import Derived.Lib.SmallJoins
namespace Go.Proofs.YtcodbomgodkcmaaGreatDoor.Lin
open Go.RowKit Go.Maps Go.Proofs.YtcodbomgodkcmaaGreatDoor
set_option maxRecDepth 100000

theorem dec_lib (n : Nat) : Lib.decDigits n = decL n := by
  induction n using Nat.strongRecOn with
  | ind n ih =>
    rw [Lib.decDigits, decL]
    by_cases h : n < 10
    · rw [dif_pos h, dif_pos h]; unfold dig; rw [Nat.mod_eq_of_lt h]
    · rw [dif_neg h, dif_neg h, ih _ (by omega)]; rfl
theorem itoa_lib (z : Int) : Lib.itoa z = printL z := by
  unfold Lib.itoa printL
  by_cases h : z < 0
  · rw [if_pos h, if_pos h, dec_lib]
  · rw [if_neg h, if_neg h, dec_lib, show z.toNat = z.natAbs by omega]

theorem parseM_dec (M : Nat) (hM : M ≤ 18446744073709551615) : ∀ (l : List UInt8) (a : Nat), (∀ c ∈ l, isDig c = true) → numV a l ≤ M → a ≤ numV a l ∧ Lib.parseUintM M a l = .ok (numV a l)
  | [], a, _, _ => ⟨by rw [numV_nil]; omega, rfl⟩
  | c :: r, a, hd, hm => by
    have hc : 48 ≤ c.toNat ∧ c.toNat ≤ 57 := by have := hd c (by simp); simpa [isDig] using this
    rw [numV_cons] at hm ⊢
    obtain ⟨h1, h2⟩ := parseM_dec M hM r (10 * a + (c.toNat - 48)) (fun x hx => hd x (by simp [hx])) hm
    refine ⟨by omega, ?_⟩
    unfold Lib.parseUintM
    rw [if_pos hc, if_neg (by omega), if_neg (by omega), show a * 10 + (c.toNat - 48) = 10 * a + (c.toNat - 48) by omega]
    exact h2

theorem parse_some {l : List UInt8} {m : Nat} (h : numL l = some m) : Lib.parseIntB 64 l = .ok (m : Int) ∧ printL (m : Int) = l ∧ m ≤ 1099511627776 := by
  unfold numL at h
  split at h
  · rename_i hh
    obtain ⟨h1, h2, h3, h4, h5⟩ := hh
    cases h
    refine ⟨?_, ?_, h5⟩
    · cases l with
      | nil => exact absurd rfl h1
      | cons c r =>
        have hc : 48 ≤ c.toNat ∧ c.toNat ≤ 57 := by have := h4 c (by simp); simpa [isDig] using this
        unfold Lib.parseIntB
        simp only
        rw [if_neg (by omega)]
        unfold Lib.parseUintB
        rw [if_neg h1, (parseM_dec (2 ^ 64 - 1) (by omega) (c :: r) 0 h4 (by omega)).2]
        simp only
        rw [if_neg (by rintro ⟨_, g⟩; omega), if_neg (by rintro ⟨g, _⟩; omega), if_neg (by omega)]
    · unfold printL
      rw [if_neg (by omega), Int.natAbs_natCast]
      exact dec_numV l h4 h1 h3
  · cases h

theorem parse_none {l : List UInt8} {v : Int} (h : numL l = none) (h0 : 0 ≤ v) (h1 : v ≤ 1099511627776) : printL v ≠ l := by
  intro e
  rw [← e, numL_print, if_pos ⟨h0, h1⟩] at h
  cases h

/-- What the world must hold: the powers of ten, the two errors of strconv. -/
structure T12 (w : World) : Prop where
  tab : Lib.TabIs Tryz.prog w "internal/strconv.uint64pow10" .u64 Lib.pow10Tab
  syn : ∃ t p, w.cell? ⟨2, 0, none⟩ = some (.iface t p)
  rng : ∃ t p, w.cell? ⟨3, 0, none⟩ = some (.iface t p)
theorem Tryz.gPow : Tryz.prog.globalNamed "internal/strconv.uint64pow10" = some 4 := by kernel_rfl

theorem cell_lt {w : World} {b o : Nat} {v : Value} (h : w.cell? ⟨b, o, none⟩ = some v) : b < w.heap.size := by
  unfold World.cell? at h
  by_cases hb : b < w.heap.size
  · exact hb
  · rw [Array.getElem?_eq_none (by simpa using hb)] at h; cases h

theorem T12.keep {w w' : World} (h : T12 w) (k : Keep (fun _ => False) w w') : T12 w' := by
  obtain ⟨h1, ⟨t2, p2, h2⟩, t3, p3, h3⟩ := h
  exact ⟨Joins.tab_stays Tryz.gPow h1 (k.below (Nat.le_refl _) (fun _ h => h.elim)) (Nat.le_refl _), ⟨t2, p2, (k.cell (cell_lt h2) (fun h => h) _).trans h2⟩, t3, p3, (k.cell (cell_lt h3) (fun h => h) _).trans h3⟩

theorem print_any {w : World} (z : Int) (hT : T12 w) (h0 : -9223372036854775808 ≤ z) (h1 : z ≤ 9223372036854775807) :
    Calls Tryz.prog 191 #[.int .i64 z] w fun e w' => e = .returned (.string ⟨(printL z).toArray⟩) ∧ Keep (fun _ => False) w w' := by
  have HT := Lib.hid hT.tab
  clear hT
  go_enter Tryz.func191, Tryz.ntmps191
  go_wp2_with (refine (Tryz.strconv_FormatInt_10 z h0 h1 _ HT.out).mono ?_; rintro e w1 ⟨rfl, k, os, rfl⟩; rw [itoa_lib])
  go_ret
  exact ⟨rfl, rfl, rfl, rfl, by show w.heap.size ≤ (w.heap ++ os).size; rw [Array.size_append]; omega, fun j hj _ => by show (w.heap ++ os)[j]? = _; rw [Array.getElem?_append_left hj]⟩

theorem number_any {w : World} (s : ByteArray) (hT : T12 w) (hs : s.size ≤ 1000000) :
    Calls Tryz.prog 156 #[.string s] w fun e w' => e = numE s.data.toList ∧ Keep (fun _ => False) w w' := by
  obtain ⟨t2, p2, h2⟩ := hT.syn
  obtain ⟨t3, p3, h3⟩ := hT.rng
  have HT := Lib.hid hT
  have H2 := Lib.hid h2
  have H3 := Lib.hid h3
  clear hT h2 h3
  rcases hp : Lib.parseIntB 64 s.data.toList with v | _ | _
  · have HP := Lib.hid hp
    have hK : ∀ w1 : World, (w1 = w ∨ ∃ t, w1 = Lib.bytesWorld w 5 t) → Keep (fun _ => False) w w1 := by
      rintro w1 (rfl | ⟨t, rfl⟩)
      · exact Keep.refl _ _
      · exact Keep.of_below (Lib.bytesWorld_below _ _ _)
    have HK := Lib.hid hK
    cases hn : numL s.data.toList with
    | some m =>
      obtain ⟨e1, e2, e3⟩ := parse_some hn
      rw [e1] at hp
      injection hp with hp
      subst hp
      rw [numE_some hn]
      have HE := Lib.hid e2
      clear hn e1 e2 hK
      have g1 : decide ((m : Int) < 0) = false := by rw [decide_eq_false_iff_not]; omega
      have g2 : decide (1099511627776 < (m : Int)) = false := by rw [decide_eq_false_iff_not]; omega
      have hq : (s.toList != s.toList) = false := by simp
      go_enter Tryz.func156, Tryz.ntmps156
      go_wp2_with (first | (refine (Tryz.strconv_ParseInt_10_at64_ok s (by omega) _ HP.out _).mono ?_; rintro e w1 ⟨rfl, hw⟩; have K1 := Lib.hid (HK.out _ hw); clear hw) | (refine (print_any _ (HT.out.keep K1.out) (by omega) (by omega)).mono ?_; rintro e w2 ⟨rfl, k2⟩; have K2 := Lib.hid k2; clear k2; rw [HE.out, str_eta]))
      go_ret2
      exact ⟨rfl, K1.out.trans K2.out (fun _ h => h.elim)⟩
    | none =>
      rw [numE_none hn]
      have HN := Lib.hid hn
      clear hp hn hK
      by_cases hv : v < 0
      · have g1 : decide (v < 0) = true := by rw [decide_eq_true_eq]; omega
        go_enter Tryz.func156, Tryz.ntmps156
        go_wp2_with (refine (Tryz.strconv_ParseInt_10_at64_ok s (by omega) _ HP.out _).mono ?_; rintro e w1 ⟨rfl, hw⟩; have K1 := Lib.hid (HK.out _ hw); clear hw)
        go_ret2
        exact ⟨rfl, K1.out⟩
      have g1 : decide (v < 0) = false := by rw [decide_eq_false_iff_not]; omega
      by_cases hv2 : 1099511627776 < v
      · have g2 : decide (1099511627776 < v) = true := by rw [decide_eq_true_eq]; omega
        go_enter Tryz.func156, Tryz.ntmps156
        go_wp2_with (refine (Tryz.strconv_ParseInt_10_at64_ok s (by omega) _ HP.out _).mono ?_; rintro e w1 ⟨rfl, hw⟩; have K1 := Lib.hid (HK.out _ hw); clear hw)
        go_ret2
        exact ⟨rfl, K1.out⟩
      have g2 : decide (1099511627776 < v) = false := by rw [decide_eq_false_iff_not]; omega
      have HQ := Lib.hid (parse_none HN.out (by omega) (by omega : v ≤ 1099511627776))
      obtain ⟨t, ht⟩ : ∃ t : ByteArray, t = ⟨(printL v).toArray⟩ := ⟨_, rfl⟩
      have hq : (t.toList != s.toList) = true := by
        rw [bne_iff_ne, ByteArray.toList_eq, ByteArray.toList_eq]
        intro e
        apply HQ.out
        rw [← e, ht]
      have hq2 : (t.toList == s.toList) = false := by rw [bne, Bool.not_eq_true'] at hq; exact hq
      have HTT := Lib.hid ht
      clear ht
      go_enter Tryz.func156, Tryz.ntmps156
      go_wp2_with (first | (refine (Tryz.strconv_ParseInt_10_at64_ok s (by omega) _ HP.out _).mono ?_; rintro e w1 ⟨rfl, hw⟩; have K1 := Lib.hid (HK.out _ hw); clear hw) | (refine (print_any _ (HT.out.keep K1.out) (by omega) (by omega)).mono ?_; rintro e w2 ⟨rfl, k2⟩; have K2 := Lib.hid k2; clear k2; rw [← HTT.out]))
      go_ret2
      exact ⟨rfl, K1.out.trans K2.out (fun _ h => h.elim)⟩
  · have hn : numL s.data.toList = none := by
      cases hn : numL s.data.toList with
      | none => rfl
      | some m => have := (parse_some hn).1; rw [hp] at this; cases this
    rw [numE_none hn]
    have CS : Calls Tryz.prog 190 #[.string s, .int .i64 10, .int .i64 64] w fun e w' => ∃ N, e = .returned (.tuple #[.int .i64 0, .iface 307 (.pointer (some ⟨N, 0, none⟩))]) ∧ w.heap.size ≤ N ∧ w'.heap[N]? = some (.cells #[.string ⟨#[80, 97, 114, 115, 101, 73, 110, 116]⟩, .string s, .iface t2 p2] 318 (0, 0)) ∧ Below w.heap.size w w' :=
      Any.strconv_ParseInt_10_at64_syntax Tryz.laysC174 s (by omega) hp (.iface t2 p2) w H2.out (.inr ⟨_, _, rfl⟩)
    clear hp hn
    go_enter Tryz.func156, Tryz.ntmps156
    go_wp2_with (refine CS.mono ?_; rintro e w1 ⟨n, rfl, -, -, hb⟩; have HB := Lib.hid hb; clear hb)
    go_ret2
    exact ⟨rfl, Keep.of_below HB.out⟩
  · have hn : numL s.data.toList = none := by
      cases hn : numL s.data.toList with
      | none => rfl
      | some m => have := (parse_some hn).1; rw [hp] at this; cases this
    rw [numE_none hn]
    have HP := Lib.hid hp
    clear hp hn
    go_enter Tryz.func156, Tryz.ntmps156
    go_wp2_with (refine (Tryz.strconv_ParseInt_10_at64_range s (by omega) HP.out _ _ H3.out (.inr ⟨_, _, rfl⟩)).mono ?_; rintro e w1 ⟨n, rfl, -, -, hb⟩; have HB := Lib.hid hb; clear hb)
    go_ret2
    exact ⟨rfl, Keep.of_below HB.out⟩
end Go.Proofs.YtcodbomgodkcmaaGreatDoor.Lin
