/- World files: the law of the bounds (made by tools/gendck.py). -/
import Derived.Test.YtcodbomgodkcmaaGreatDoorDcP
namespace Go.Proofs.YtcodbomgodkcmaaGreatDoor.Wd
open Go.RowKit Go.Maps Go.Proofs.YtcodbomgodkcmaaGreatDoor Go.Proofs.YtcodbomgodkcmaaGreatDoor.Lin Go.Sort
set_option maxRecDepth 100000

theorem print_size {z : Int} (h1 : -9223372036854775808 ≤ z) (h2 : z ≤ 9223372036854775807) {t : ByteArray} (ht : t.data.toList = printL z) : t.size ≤ 21 := by
  have e : t.size = t.data.toList.length := by simp
  have hl := decL_len 19 z.natAbs (by omega)
  rw [e, ht]
  unfold printL
  split
  · rw [List.length_cons]; omega
  · omega
theorem bounds_text {a b c d e : Int} {t1 t2 t3 t4 t5 : ByteArray} (h1 : t1.data.toList = printL a) (h2 : t2.data.toList = printL b) (h3 : t3.data.toList = printL c) (h4 : t4.data.toList = printL d) (h5 : t5.data.toList = printL e) :
    ((((((⟨#[114, 111, 111, 109, 32, 49, 32, 97, 32, 112, 108, 97, 105, 110, 32, 48, 32, 48, 32, 48, 32, 48, 32, 48, 32, 48, 32, 48, 10, 105, 116, 101, 109, 32, 49, 32, 98, 32, 119, 105, 101, 108, 100, 32]⟩ : ByteArray) ++ t1 ++ (⟨#[32]⟩ : ByteArray)) ++ t2 ++ (⟨#[10, 109, 111, 98, 32, 49, 32, 99, 32, 49, 32]⟩ : ByteArray)) ++ t3 ++ (⟨#[32, 49, 32]⟩ : ByteArray)) ++ t4 ++ (⟨#[32, 48, 10, 113, 117, 101, 115, 116, 32, 49, 32, 49, 32]⟩ : ByteArray)) ++ t5 ++ (⟨#[32, 48, 32, 48, 10]⟩ : ByteArray)).data.toList = boundsT a b c d e := by
  simp [h1, h2, h3, h4, h5, boundsT, bl1, bl2, bl3, bl4]
theorem six_short (c0 c1 c2 c3 c4 c5 t1 t2 t3 t4 t5 : ByteArray) (k0 : c0.size ≤ 100) (k1 : c1.size ≤ 100) (k2 : c2.size ≤ 100) (k3 : c3.size ≤ 100) (k4 : c4.size ≤ 100) (k5 : c5.size ≤ 100) (h1 : t1.size ≤ 21) (h2 : t2.size ≤ 21) (h3 : t3.size ≤ 21) (h4 : t4.size ≤ 21) (h5 : t5.size ≤ 21) :
    (((((((((((c0 ++ t1) ++ c1) ++ t2) ++ c2) ++ t3) ++ c3) ++ t4) ++ c4) ++ t5) ++ c5).size) ≤ 1000000 := by
  simp only [ByteArray.size_append]
  omega
theorem bounds_short {t1 t2 t3 t4 t5 : ByteArray} (h1 : t1.size ≤ 21) (h2 : t2.size ≤ 21) (h3 : t3.size ≤ 21) (h4 : t4.size ≤ 21) (h5 : t5.size ≤ 21) :
    ((((((⟨#[114, 111, 111, 109, 32, 49, 32, 97, 32, 112, 108, 97, 105, 110, 32, 48, 32, 48, 32, 48, 32, 48, 32, 48, 32, 48, 32, 48, 10, 105, 116, 101, 109, 32, 49, 32, 98, 32, 119, 105, 101, 108, 100, 32]⟩ : ByteArray) ++ t1 ++ (⟨#[32]⟩ : ByteArray)) ++ t2 ++ (⟨#[10, 109, 111, 98, 32, 49, 32, 99, 32, 49, 32]⟩ : ByteArray)) ++ t3 ++ (⟨#[32, 49, 32]⟩ : ByteArray)) ++ t4 ++ (⟨#[32, 48, 10, 113, 117, 101, 115, 116, 32, 49, 32, 49, 32]⟩ : ByteArray)) ++ t5 ++ (⟨#[32, 48, 32, 48, 10]⟩ : ByteArray)).size ≤ 1000000 := six_short _ _ _ _ _ _ t1 t2 t3 t4 t5 (by decide) (by decide) (by decide) (by decide) (by decide) (by decide) h1 h2 h3 h4 h5

/-- Parse on the law's text, where all bounds are kept, and where one is not. -/
def PB (a b c d e : Int) (P : Ending → World → Prop) : Prop := ∀ (w : World) (s : ByteArray), T12 w → s.data.toList = boundsT a b c d e → s.size ≤ 1000000 → Calls Tryz.prog 8 #[.string s] w fun e' w' => P e' w' ∧ Keep (fun _ => False) w w'
theorem pb_ok {a b c d e : Int} (h : okAll a b c d e = true) : PB a b c d e (fun e' _ => ∃ p, e' = .returned (.tuple #[.pointer (some ⟨p, 0, none⟩), .nilIface])) := fun w s hT hs hz => (parseBounds_any hT a b c d e hs hz).mono fun e' w' hh => by
  obtain ⟨⟨_, h1⟩ | ⟨h0, _⟩, hk⟩ := hh
  · exact ⟨h1, hk⟩
  · rw [h] at h0; cases h0
theorem pb_bad {a b c d e : Int} (h : okAll a b c d e = false) : PB a b c d e (fun e' w' => ∃ r k, e' = .returned (.tuple #[.pointer none, lineErr r]) ∧ LErr w' r k) := fun w s hT hs hz => (parseBounds_any hT a b c d e hs hz).mono fun e' w' hh => by
  obtain ⟨⟨h0, _⟩ | ⟨_, h1⟩, hk⟩ := hh
  · rw [h] at h0; cases h0
  · exact ⟨h1, hk⟩

set_option maxHeartbeats 4000000 in
theorem bounds_0 {w : World} (hT : T12 w) (HB : Hid (Calls Tryz.prog 6 #[] w fun e w' => e = .returned (.bool true) ∧ Keep (fun _ => False) w w')) {a b c d e : Int} (la : -9223372036854775808 ≤ a) (ua : a ≤ 9223372036854775807) (lb : -9223372036854775808 ≤ b) (ub : b ≤ 9223372036854775807) (lc : -9223372036854775808 ≤ c) (uc : c ≤ 9223372036854775807) (ld : -9223372036854775808 ≤ d) (ud : d ≤ 9223372036854775807) (le : -9223372036854775808 ≤ e) (ue : e ≤ 9223372036854775807) (h0 : ¬ 0 ≤ a) :
    Calls Tryz.prog 4 #[.int .i64 a, .int .i64 b, .int .i64 c, .int .i64 d, .int .i64 e] w fun e' w' => e' = .returned (.bool true) ∧ Keep (fun _ => False) w w' := by
  have HT := Lib.hid hT
  have HPB := Lib.hid (pb_bad (a := a) (b := b) (c := c) (d := d) (e := e) (by
    rw [Bool.eq_false_iff]
    intro h
    unfold okAll okP okM inB at h
    simp at h
    omega))
  unfold PB at HPB
  have d0 : decide (0 ≤ a) = false := by rw [decide_eq_false_iff_not]; exact h0
  have PR1 := Lib.hid (fun w => refPrint_any a la ua (w := w))
  have PS1 := Lib.hid (fun t ht => print_size (z := a) la ua (t := t) ht)
  have PR2 := Lib.hid (fun w => refPrint_any b lb ub (w := w))
  have PS2 := Lib.hid (fun t ht => print_size (z := b) lb ub (t := t) ht)
  have PR3 := Lib.hid (fun w => refPrint_any c lc uc (w := w))
  have PS3 := Lib.hid (fun t ht => print_size (z := c) lc uc (t := t) ht)
  have PR4 := Lib.hid (fun w => refPrint_any d ld ud (w := w))
  have PS4 := Lib.hid (fun t ht => print_size (z := d) ld ud (t := t) ht)
  have PR5 := Lib.hid (fun w => refPrint_any e le ue (w := w))
  have PS5 := Lib.hid (fun t ht => print_size (z := e) le ue (t := t) ht)
  have IL := Lib.hid (fun w r k (h : LErr w r k) => isF_line h)
  simp only [lineErr] at HPB IL
  clear hT la ua lb ub lc uc ld ud le ue h0
  go_enter Tryz.func4, Tryz.ntmps4
  go_wp2_with (first
    | (go_at_call 6; (with_reducible refine HB.out.mono ?_); rintro e0 w0 ⟨rfl, k0⟩; have K := Lib.hid k0; clear k0)
    | (go_at_call 14; (with_reducible refine (PR1.out _).mono ?_); rintro e0 w1 ⟨⟨t1, rfl, ht⟩, k0⟩; have HT1 := Lib.hid ht; have hz1 := PS1.out t1 ht; have K := Lib.hid (K.out.trans k0 (fun _ h => h.elim)); clear ht k0)
    | (go_at_call 14; (with_reducible refine (PR2.out _).mono ?_); rintro e0 w2 ⟨⟨t2, rfl, ht⟩, k0⟩; have HT2 := Lib.hid ht; have hz2 := PS2.out t2 ht; have K := Lib.hid (K.out.trans k0 (fun _ h => h.elim)); clear ht k0)
    | (go_at_call 14; (with_reducible refine (PR3.out _).mono ?_); rintro e0 w3 ⟨⟨t3, rfl, ht⟩, k0⟩; have HT3 := Lib.hid ht; have hz3 := PS3.out t3 ht; have K := Lib.hid (K.out.trans k0 (fun _ h => h.elim)); clear ht k0)
    | (go_at_call 14; (with_reducible refine (PR4.out _).mono ?_); rintro e0 w4 ⟨⟨t4, rfl, ht⟩, k0⟩; have HT4 := Lib.hid ht; have hz4 := PS4.out t4 ht; have K := Lib.hid (K.out.trans k0 (fun _ h => h.elim)); clear ht k0)
    | (go_at_call 14; (with_reducible refine (PR5.out _).mono ?_); rintro e0 w5 ⟨⟨t5, rfl, ht⟩, k0⟩; have HT5 := Lib.hid ht; have hz5 := PS5.out t5 ht; have K := Lib.hid (K.out.trans k0 (fun _ h => h.elim)); clear ht k0)
    | (go_at_call 8; (refine (HPB.out _ _ (T12.keep0 HT.out K.out) (bounds_text HT1.out HT2.out HT3.out HT4.out HT5.out) (bounds_short hz1 hz2 hz3 hz4 hz5)).mono ?_); rintro e0 w6 ⟨⟨r, kk, rfl, hl⟩, k0⟩; have HL := Lib.hid hl; have K := Lib.hid (K.out.trans k0 (fun _ h => h.elim)); clear k0 hl)
    | (go_at_call 11; (with_reducible refine (IL.out _ _ _ HL.out).mono ?_); rintro e0 w7 ⟨rfl, rfl⟩))
  all_goals go_ret
  all_goals exact ⟨rfl, K.out⟩

set_option maxHeartbeats 4000000 in
theorem bounds_1 {w : World} (hT : T12 w) (HB : Hid (Calls Tryz.prog 6 #[] w fun e w' => e = .returned (.bool true) ∧ Keep (fun _ => False) w w')) {a b c d e : Int} (la : -9223372036854775808 ≤ a) (ua : a ≤ 9223372036854775807) (lb : -9223372036854775808 ≤ b) (ub : b ≤ 9223372036854775807) (lc : -9223372036854775808 ≤ c) (uc : c ≤ 9223372036854775807) (ld : -9223372036854775808 ≤ d) (ud : d ≤ 9223372036854775807) (le : -9223372036854775808 ≤ e) (ue : e ≤ 9223372036854775807) (h0 : 0 ≤ a) (h1 : ¬ a ≤ 100) :
    Calls Tryz.prog 4 #[.int .i64 a, .int .i64 b, .int .i64 c, .int .i64 d, .int .i64 e] w fun e' w' => e' = .returned (.bool true) ∧ Keep (fun _ => False) w w' := by
  have HT := Lib.hid hT
  have HPB := Lib.hid (pb_bad (a := a) (b := b) (c := c) (d := d) (e := e) (by
    rw [Bool.eq_false_iff]
    intro h
    unfold okAll okP okM inB at h
    simp at h
    omega))
  unfold PB at HPB
  have d0 : decide (0 ≤ a) = true := by rw [decide_eq_true_eq]; exact h0
  have d1 : decide (a ≤ 100) = false := by rw [decide_eq_false_iff_not]; exact h1
  have PR1 := Lib.hid (fun w => refPrint_any a la ua (w := w))
  have PS1 := Lib.hid (fun t ht => print_size (z := a) la ua (t := t) ht)
  have PR2 := Lib.hid (fun w => refPrint_any b lb ub (w := w))
  have PS2 := Lib.hid (fun t ht => print_size (z := b) lb ub (t := t) ht)
  have PR3 := Lib.hid (fun w => refPrint_any c lc uc (w := w))
  have PS3 := Lib.hid (fun t ht => print_size (z := c) lc uc (t := t) ht)
  have PR4 := Lib.hid (fun w => refPrint_any d ld ud (w := w))
  have PS4 := Lib.hid (fun t ht => print_size (z := d) ld ud (t := t) ht)
  have PR5 := Lib.hid (fun w => refPrint_any e le ue (w := w))
  have PS5 := Lib.hid (fun t ht => print_size (z := e) le ue (t := t) ht)
  have IL := Lib.hid (fun w r k (h : LErr w r k) => isF_line h)
  simp only [lineErr] at HPB IL
  clear hT la ua lb ub lc uc ld ud le ue h0 h1
  go_enter Tryz.func4, Tryz.ntmps4
  go_wp2_with (first
    | (go_at_call 6; (with_reducible refine HB.out.mono ?_); rintro e0 w0 ⟨rfl, k0⟩; have K := Lib.hid k0; clear k0)
    | (go_at_call 14; (with_reducible refine (PR1.out _).mono ?_); rintro e0 w1 ⟨⟨t1, rfl, ht⟩, k0⟩; have HT1 := Lib.hid ht; have hz1 := PS1.out t1 ht; have K := Lib.hid (K.out.trans k0 (fun _ h => h.elim)); clear ht k0)
    | (go_at_call 14; (with_reducible refine (PR2.out _).mono ?_); rintro e0 w2 ⟨⟨t2, rfl, ht⟩, k0⟩; have HT2 := Lib.hid ht; have hz2 := PS2.out t2 ht; have K := Lib.hid (K.out.trans k0 (fun _ h => h.elim)); clear ht k0)
    | (go_at_call 14; (with_reducible refine (PR3.out _).mono ?_); rintro e0 w3 ⟨⟨t3, rfl, ht⟩, k0⟩; have HT3 := Lib.hid ht; have hz3 := PS3.out t3 ht; have K := Lib.hid (K.out.trans k0 (fun _ h => h.elim)); clear ht k0)
    | (go_at_call 14; (with_reducible refine (PR4.out _).mono ?_); rintro e0 w4 ⟨⟨t4, rfl, ht⟩, k0⟩; have HT4 := Lib.hid ht; have hz4 := PS4.out t4 ht; have K := Lib.hid (K.out.trans k0 (fun _ h => h.elim)); clear ht k0)
    | (go_at_call 14; (with_reducible refine (PR5.out _).mono ?_); rintro e0 w5 ⟨⟨t5, rfl, ht⟩, k0⟩; have HT5 := Lib.hid ht; have hz5 := PS5.out t5 ht; have K := Lib.hid (K.out.trans k0 (fun _ h => h.elim)); clear ht k0)
    | (go_at_call 8; (refine (HPB.out _ _ (T12.keep0 HT.out K.out) (bounds_text HT1.out HT2.out HT3.out HT4.out HT5.out) (bounds_short hz1 hz2 hz3 hz4 hz5)).mono ?_); rintro e0 w6 ⟨⟨r, kk, rfl, hl⟩, k0⟩; have HL := Lib.hid hl; have K := Lib.hid (K.out.trans k0 (fun _ h => h.elim)); clear k0 hl)
    | (go_at_call 11; (with_reducible refine (IL.out _ _ _ HL.out).mono ?_); rintro e0 w7 ⟨rfl, rfl⟩))
  all_goals go_ret
  all_goals exact ⟨rfl, K.out⟩

set_option maxHeartbeats 4000000 in
theorem bounds_2 {w : World} (hT : T12 w) (HB : Hid (Calls Tryz.prog 6 #[] w fun e w' => e = .returned (.bool true) ∧ Keep (fun _ => False) w w')) {a b c d e : Int} (la : -9223372036854775808 ≤ a) (ua : a ≤ 9223372036854775807) (lb : -9223372036854775808 ≤ b) (ub : b ≤ 9223372036854775807) (lc : -9223372036854775808 ≤ c) (uc : c ≤ 9223372036854775807) (ld : -9223372036854775808 ≤ d) (ud : d ≤ 9223372036854775807) (le : -9223372036854775808 ≤ e) (ue : e ≤ 9223372036854775807) (h0 : 0 ≤ a) (h1 : a ≤ 100) (h2 : ¬ 0 ≤ b) :
    Calls Tryz.prog 4 #[.int .i64 a, .int .i64 b, .int .i64 c, .int .i64 d, .int .i64 e] w fun e' w' => e' = .returned (.bool true) ∧ Keep (fun _ => False) w w' := by
  have HT := Lib.hid hT
  have HPB := Lib.hid (pb_bad (a := a) (b := b) (c := c) (d := d) (e := e) (by
    rw [Bool.eq_false_iff]
    intro h
    unfold okAll okP okM inB at h
    simp at h
    omega))
  unfold PB at HPB
  have d0 : decide (0 ≤ a) = true := by rw [decide_eq_true_eq]; exact h0
  have d1 : decide (a ≤ 100) = true := by rw [decide_eq_true_eq]; exact h1
  have d2 : decide (0 ≤ b) = false := by rw [decide_eq_false_iff_not]; exact h2
  have PR1 := Lib.hid (fun w => refPrint_any a la ua (w := w))
  have PS1 := Lib.hid (fun t ht => print_size (z := a) la ua (t := t) ht)
  have PR2 := Lib.hid (fun w => refPrint_any b lb ub (w := w))
  have PS2 := Lib.hid (fun t ht => print_size (z := b) lb ub (t := t) ht)
  have PR3 := Lib.hid (fun w => refPrint_any c lc uc (w := w))
  have PS3 := Lib.hid (fun t ht => print_size (z := c) lc uc (t := t) ht)
  have PR4 := Lib.hid (fun w => refPrint_any d ld ud (w := w))
  have PS4 := Lib.hid (fun t ht => print_size (z := d) ld ud (t := t) ht)
  have PR5 := Lib.hid (fun w => refPrint_any e le ue (w := w))
  have PS5 := Lib.hid (fun t ht => print_size (z := e) le ue (t := t) ht)
  have IL := Lib.hid (fun w r k (h : LErr w r k) => isF_line h)
  simp only [lineErr] at HPB IL
  clear hT la ua lb ub lc uc ld ud le ue h0 h1 h2
  go_enter Tryz.func4, Tryz.ntmps4
  go_wp2_with (first
    | (go_at_call 6; (with_reducible refine HB.out.mono ?_); rintro e0 w0 ⟨rfl, k0⟩; have K := Lib.hid k0; clear k0)
    | (go_at_call 14; (with_reducible refine (PR1.out _).mono ?_); rintro e0 w1 ⟨⟨t1, rfl, ht⟩, k0⟩; have HT1 := Lib.hid ht; have hz1 := PS1.out t1 ht; have K := Lib.hid (K.out.trans k0 (fun _ h => h.elim)); clear ht k0)
    | (go_at_call 14; (with_reducible refine (PR2.out _).mono ?_); rintro e0 w2 ⟨⟨t2, rfl, ht⟩, k0⟩; have HT2 := Lib.hid ht; have hz2 := PS2.out t2 ht; have K := Lib.hid (K.out.trans k0 (fun _ h => h.elim)); clear ht k0)
    | (go_at_call 14; (with_reducible refine (PR3.out _).mono ?_); rintro e0 w3 ⟨⟨t3, rfl, ht⟩, k0⟩; have HT3 := Lib.hid ht; have hz3 := PS3.out t3 ht; have K := Lib.hid (K.out.trans k0 (fun _ h => h.elim)); clear ht k0)
    | (go_at_call 14; (with_reducible refine (PR4.out _).mono ?_); rintro e0 w4 ⟨⟨t4, rfl, ht⟩, k0⟩; have HT4 := Lib.hid ht; have hz4 := PS4.out t4 ht; have K := Lib.hid (K.out.trans k0 (fun _ h => h.elim)); clear ht k0)
    | (go_at_call 14; (with_reducible refine (PR5.out _).mono ?_); rintro e0 w5 ⟨⟨t5, rfl, ht⟩, k0⟩; have HT5 := Lib.hid ht; have hz5 := PS5.out t5 ht; have K := Lib.hid (K.out.trans k0 (fun _ h => h.elim)); clear ht k0)
    | (go_at_call 8; (refine (HPB.out _ _ (T12.keep0 HT.out K.out) (bounds_text HT1.out HT2.out HT3.out HT4.out HT5.out) (bounds_short hz1 hz2 hz3 hz4 hz5)).mono ?_); rintro e0 w6 ⟨⟨r, kk, rfl, hl⟩, k0⟩; have HL := Lib.hid hl; have K := Lib.hid (K.out.trans k0 (fun _ h => h.elim)); clear k0 hl)
    | (go_at_call 11; (with_reducible refine (IL.out _ _ _ HL.out).mono ?_); rintro e0 w7 ⟨rfl, rfl⟩))
  all_goals go_ret
  all_goals exact ⟨rfl, K.out⟩

set_option maxHeartbeats 4000000 in
theorem bounds_3 {w : World} (hT : T12 w) (HB : Hid (Calls Tryz.prog 6 #[] w fun e w' => e = .returned (.bool true) ∧ Keep (fun _ => False) w w')) {a b c d e : Int} (la : -9223372036854775808 ≤ a) (ua : a ≤ 9223372036854775807) (lb : -9223372036854775808 ≤ b) (ub : b ≤ 9223372036854775807) (lc : -9223372036854775808 ≤ c) (uc : c ≤ 9223372036854775807) (ld : -9223372036854775808 ≤ d) (ud : d ≤ 9223372036854775807) (le : -9223372036854775808 ≤ e) (ue : e ≤ 9223372036854775807) (h0 : 0 ≤ a) (h1 : a ≤ 100) (h2 : 0 ≤ b) (h3 : ¬ b ≤ 1073741824) :
    Calls Tryz.prog 4 #[.int .i64 a, .int .i64 b, .int .i64 c, .int .i64 d, .int .i64 e] w fun e' w' => e' = .returned (.bool true) ∧ Keep (fun _ => False) w w' := by
  have HT := Lib.hid hT
  have HPB := Lib.hid (pb_bad (a := a) (b := b) (c := c) (d := d) (e := e) (by
    rw [Bool.eq_false_iff]
    intro h
    unfold okAll okP okM inB at h
    simp at h
    omega))
  unfold PB at HPB
  have d0 : decide (0 ≤ a) = true := by rw [decide_eq_true_eq]; exact h0
  have d1 : decide (a ≤ 100) = true := by rw [decide_eq_true_eq]; exact h1
  have d2 : decide (0 ≤ b) = true := by rw [decide_eq_true_eq]; exact h2
  have d3 : decide (b ≤ 1073741824) = false := by rw [decide_eq_false_iff_not]; exact h3
  have PR1 := Lib.hid (fun w => refPrint_any a la ua (w := w))
  have PS1 := Lib.hid (fun t ht => print_size (z := a) la ua (t := t) ht)
  have PR2 := Lib.hid (fun w => refPrint_any b lb ub (w := w))
  have PS2 := Lib.hid (fun t ht => print_size (z := b) lb ub (t := t) ht)
  have PR3 := Lib.hid (fun w => refPrint_any c lc uc (w := w))
  have PS3 := Lib.hid (fun t ht => print_size (z := c) lc uc (t := t) ht)
  have PR4 := Lib.hid (fun w => refPrint_any d ld ud (w := w))
  have PS4 := Lib.hid (fun t ht => print_size (z := d) ld ud (t := t) ht)
  have PR5 := Lib.hid (fun w => refPrint_any e le ue (w := w))
  have PS5 := Lib.hid (fun t ht => print_size (z := e) le ue (t := t) ht)
  have IL := Lib.hid (fun w r k (h : LErr w r k) => isF_line h)
  simp only [lineErr] at HPB IL
  clear hT la ua lb ub lc uc ld ud le ue h0 h1 h2 h3
  go_enter Tryz.func4, Tryz.ntmps4
  go_wp2_with (first
    | (go_at_call 6; (with_reducible refine HB.out.mono ?_); rintro e0 w0 ⟨rfl, k0⟩; have K := Lib.hid k0; clear k0)
    | (go_at_call 14; (with_reducible refine (PR1.out _).mono ?_); rintro e0 w1 ⟨⟨t1, rfl, ht⟩, k0⟩; have HT1 := Lib.hid ht; have hz1 := PS1.out t1 ht; have K := Lib.hid (K.out.trans k0 (fun _ h => h.elim)); clear ht k0)
    | (go_at_call 14; (with_reducible refine (PR2.out _).mono ?_); rintro e0 w2 ⟨⟨t2, rfl, ht⟩, k0⟩; have HT2 := Lib.hid ht; have hz2 := PS2.out t2 ht; have K := Lib.hid (K.out.trans k0 (fun _ h => h.elim)); clear ht k0)
    | (go_at_call 14; (with_reducible refine (PR3.out _).mono ?_); rintro e0 w3 ⟨⟨t3, rfl, ht⟩, k0⟩; have HT3 := Lib.hid ht; have hz3 := PS3.out t3 ht; have K := Lib.hid (K.out.trans k0 (fun _ h => h.elim)); clear ht k0)
    | (go_at_call 14; (with_reducible refine (PR4.out _).mono ?_); rintro e0 w4 ⟨⟨t4, rfl, ht⟩, k0⟩; have HT4 := Lib.hid ht; have hz4 := PS4.out t4 ht; have K := Lib.hid (K.out.trans k0 (fun _ h => h.elim)); clear ht k0)
    | (go_at_call 14; (with_reducible refine (PR5.out _).mono ?_); rintro e0 w5 ⟨⟨t5, rfl, ht⟩, k0⟩; have HT5 := Lib.hid ht; have hz5 := PS5.out t5 ht; have K := Lib.hid (K.out.trans k0 (fun _ h => h.elim)); clear ht k0)
    | (go_at_call 8; (refine (HPB.out _ _ (T12.keep0 HT.out K.out) (bounds_text HT1.out HT2.out HT3.out HT4.out HT5.out) (bounds_short hz1 hz2 hz3 hz4 hz5)).mono ?_); rintro e0 w6 ⟨⟨r, kk, rfl, hl⟩, k0⟩; have HL := Lib.hid hl; have K := Lib.hid (K.out.trans k0 (fun _ h => h.elim)); clear k0 hl)
    | (go_at_call 11; (with_reducible refine (IL.out _ _ _ HL.out).mono ?_); rintro e0 w7 ⟨rfl, rfl⟩))
  all_goals go_ret
  all_goals exact ⟨rfl, K.out⟩

set_option maxHeartbeats 4000000 in
theorem bounds_4 {w : World} (hT : T12 w) (HB : Hid (Calls Tryz.prog 6 #[] w fun e w' => e = .returned (.bool true) ∧ Keep (fun _ => False) w w')) {a b c d e : Int} (la : -9223372036854775808 ≤ a) (ua : a ≤ 9223372036854775807) (lb : -9223372036854775808 ≤ b) (ub : b ≤ 9223372036854775807) (lc : -9223372036854775808 ≤ c) (uc : c ≤ 9223372036854775807) (ld : -9223372036854775808 ≤ d) (ud : d ≤ 9223372036854775807) (le : -9223372036854775808 ≤ e) (ue : e ≤ 9223372036854775807) (h0 : 0 ≤ a) (h1 : a ≤ 100) (h2 : 0 ≤ b) (h3 : b ≤ 1073741824) (h4 : ¬ 1 ≤ c) :
    Calls Tryz.prog 4 #[.int .i64 a, .int .i64 b, .int .i64 c, .int .i64 d, .int .i64 e] w fun e' w' => e' = .returned (.bool true) ∧ Keep (fun _ => False) w w' := by
  have HT := Lib.hid hT
  have HPB := Lib.hid (pb_bad (a := a) (b := b) (c := c) (d := d) (e := e) (by
    rw [Bool.eq_false_iff]
    intro h
    unfold okAll okP okM inB at h
    simp at h
    omega))
  unfold PB at HPB
  have d0 : decide (0 ≤ a) = true := by rw [decide_eq_true_eq]; exact h0
  have d1 : decide (a ≤ 100) = true := by rw [decide_eq_true_eq]; exact h1
  have d2 : decide (0 ≤ b) = true := by rw [decide_eq_true_eq]; exact h2
  have d3 : decide (b ≤ 1073741824) = true := by rw [decide_eq_true_eq]; exact h3
  have d4 : decide (1 ≤ c) = false := by rw [decide_eq_false_iff_not]; exact h4
  have PR1 := Lib.hid (fun w => refPrint_any a la ua (w := w))
  have PS1 := Lib.hid (fun t ht => print_size (z := a) la ua (t := t) ht)
  have PR2 := Lib.hid (fun w => refPrint_any b lb ub (w := w))
  have PS2 := Lib.hid (fun t ht => print_size (z := b) lb ub (t := t) ht)
  have PR3 := Lib.hid (fun w => refPrint_any c lc uc (w := w))
  have PS3 := Lib.hid (fun t ht => print_size (z := c) lc uc (t := t) ht)
  have PR4 := Lib.hid (fun w => refPrint_any d ld ud (w := w))
  have PS4 := Lib.hid (fun t ht => print_size (z := d) ld ud (t := t) ht)
  have PR5 := Lib.hid (fun w => refPrint_any e le ue (w := w))
  have PS5 := Lib.hid (fun t ht => print_size (z := e) le ue (t := t) ht)
  have IL := Lib.hid (fun w r k (h : LErr w r k) => isF_line h)
  simp only [lineErr] at HPB IL
  clear hT la ua lb ub lc uc ld ud le ue h0 h1 h2 h3 h4
  go_enter Tryz.func4, Tryz.ntmps4
  go_wp2_with (first
    | (go_at_call 6; (with_reducible refine HB.out.mono ?_); rintro e0 w0 ⟨rfl, k0⟩; have K := Lib.hid k0; clear k0)
    | (go_at_call 14; (with_reducible refine (PR1.out _).mono ?_); rintro e0 w1 ⟨⟨t1, rfl, ht⟩, k0⟩; have HT1 := Lib.hid ht; have hz1 := PS1.out t1 ht; have K := Lib.hid (K.out.trans k0 (fun _ h => h.elim)); clear ht k0)
    | (go_at_call 14; (with_reducible refine (PR2.out _).mono ?_); rintro e0 w2 ⟨⟨t2, rfl, ht⟩, k0⟩; have HT2 := Lib.hid ht; have hz2 := PS2.out t2 ht; have K := Lib.hid (K.out.trans k0 (fun _ h => h.elim)); clear ht k0)
    | (go_at_call 14; (with_reducible refine (PR3.out _).mono ?_); rintro e0 w3 ⟨⟨t3, rfl, ht⟩, k0⟩; have HT3 := Lib.hid ht; have hz3 := PS3.out t3 ht; have K := Lib.hid (K.out.trans k0 (fun _ h => h.elim)); clear ht k0)
    | (go_at_call 14; (with_reducible refine (PR4.out _).mono ?_); rintro e0 w4 ⟨⟨t4, rfl, ht⟩, k0⟩; have HT4 := Lib.hid ht; have hz4 := PS4.out t4 ht; have K := Lib.hid (K.out.trans k0 (fun _ h => h.elim)); clear ht k0)
    | (go_at_call 14; (with_reducible refine (PR5.out _).mono ?_); rintro e0 w5 ⟨⟨t5, rfl, ht⟩, k0⟩; have HT5 := Lib.hid ht; have hz5 := PS5.out t5 ht; have K := Lib.hid (K.out.trans k0 (fun _ h => h.elim)); clear ht k0)
    | (go_at_call 8; (refine (HPB.out _ _ (T12.keep0 HT.out K.out) (bounds_text HT1.out HT2.out HT3.out HT4.out HT5.out) (bounds_short hz1 hz2 hz3 hz4 hz5)).mono ?_); rintro e0 w6 ⟨⟨r, kk, rfl, hl⟩, k0⟩; have HL := Lib.hid hl; have K := Lib.hid (K.out.trans k0 (fun _ h => h.elim)); clear k0 hl)
    | (go_at_call 11; (with_reducible refine (IL.out _ _ _ HL.out).mono ?_); rintro e0 w7 ⟨rfl, rfl⟩))
  all_goals go_ret
  all_goals exact ⟨rfl, K.out⟩

set_option maxHeartbeats 4000000 in
theorem bounds_5 {w : World} (hT : T12 w) (HB : Hid (Calls Tryz.prog 6 #[] w fun e w' => e = .returned (.bool true) ∧ Keep (fun _ => False) w w')) {a b c d e : Int} (la : -9223372036854775808 ≤ a) (ua : a ≤ 9223372036854775807) (lb : -9223372036854775808 ≤ b) (ub : b ≤ 9223372036854775807) (lc : -9223372036854775808 ≤ c) (uc : c ≤ 9223372036854775807) (ld : -9223372036854775808 ≤ d) (ud : d ≤ 9223372036854775807) (le : -9223372036854775808 ≤ e) (ue : e ≤ 9223372036854775807) (h0 : 0 ≤ a) (h1 : a ≤ 100) (h2 : 0 ≤ b) (h3 : b ≤ 1073741824) (h4 : 1 ≤ c) (h5 : ¬ c ≤ 10000) :
    Calls Tryz.prog 4 #[.int .i64 a, .int .i64 b, .int .i64 c, .int .i64 d, .int .i64 e] w fun e' w' => e' = .returned (.bool true) ∧ Keep (fun _ => False) w w' := by
  have HT := Lib.hid hT
  have HPB := Lib.hid (pb_bad (a := a) (b := b) (c := c) (d := d) (e := e) (by
    rw [Bool.eq_false_iff]
    intro h
    unfold okAll okP okM inB at h
    simp at h
    omega))
  unfold PB at HPB
  have d0 : decide (0 ≤ a) = true := by rw [decide_eq_true_eq]; exact h0
  have d1 : decide (a ≤ 100) = true := by rw [decide_eq_true_eq]; exact h1
  have d2 : decide (0 ≤ b) = true := by rw [decide_eq_true_eq]; exact h2
  have d3 : decide (b ≤ 1073741824) = true := by rw [decide_eq_true_eq]; exact h3
  have d4 : decide (1 ≤ c) = true := by rw [decide_eq_true_eq]; exact h4
  have d5 : decide (c ≤ 10000) = false := by rw [decide_eq_false_iff_not]; exact h5
  have PR1 := Lib.hid (fun w => refPrint_any a la ua (w := w))
  have PS1 := Lib.hid (fun t ht => print_size (z := a) la ua (t := t) ht)
  have PR2 := Lib.hid (fun w => refPrint_any b lb ub (w := w))
  have PS2 := Lib.hid (fun t ht => print_size (z := b) lb ub (t := t) ht)
  have PR3 := Lib.hid (fun w => refPrint_any c lc uc (w := w))
  have PS3 := Lib.hid (fun t ht => print_size (z := c) lc uc (t := t) ht)
  have PR4 := Lib.hid (fun w => refPrint_any d ld ud (w := w))
  have PS4 := Lib.hid (fun t ht => print_size (z := d) ld ud (t := t) ht)
  have PR5 := Lib.hid (fun w => refPrint_any e le ue (w := w))
  have PS5 := Lib.hid (fun t ht => print_size (z := e) le ue (t := t) ht)
  have IL := Lib.hid (fun w r k (h : LErr w r k) => isF_line h)
  simp only [lineErr] at HPB IL
  clear hT la ua lb ub lc uc ld ud le ue h0 h1 h2 h3 h4 h5
  go_enter Tryz.func4, Tryz.ntmps4
  go_wp2_with (first
    | (go_at_call 6; (with_reducible refine HB.out.mono ?_); rintro e0 w0 ⟨rfl, k0⟩; have K := Lib.hid k0; clear k0)
    | (go_at_call 14; (with_reducible refine (PR1.out _).mono ?_); rintro e0 w1 ⟨⟨t1, rfl, ht⟩, k0⟩; have HT1 := Lib.hid ht; have hz1 := PS1.out t1 ht; have K := Lib.hid (K.out.trans k0 (fun _ h => h.elim)); clear ht k0)
    | (go_at_call 14; (with_reducible refine (PR2.out _).mono ?_); rintro e0 w2 ⟨⟨t2, rfl, ht⟩, k0⟩; have HT2 := Lib.hid ht; have hz2 := PS2.out t2 ht; have K := Lib.hid (K.out.trans k0 (fun _ h => h.elim)); clear ht k0)
    | (go_at_call 14; (with_reducible refine (PR3.out _).mono ?_); rintro e0 w3 ⟨⟨t3, rfl, ht⟩, k0⟩; have HT3 := Lib.hid ht; have hz3 := PS3.out t3 ht; have K := Lib.hid (K.out.trans k0 (fun _ h => h.elim)); clear ht k0)
    | (go_at_call 14; (with_reducible refine (PR4.out _).mono ?_); rintro e0 w4 ⟨⟨t4, rfl, ht⟩, k0⟩; have HT4 := Lib.hid ht; have hz4 := PS4.out t4 ht; have K := Lib.hid (K.out.trans k0 (fun _ h => h.elim)); clear ht k0)
    | (go_at_call 14; (with_reducible refine (PR5.out _).mono ?_); rintro e0 w5 ⟨⟨t5, rfl, ht⟩, k0⟩; have HT5 := Lib.hid ht; have hz5 := PS5.out t5 ht; have K := Lib.hid (K.out.trans k0 (fun _ h => h.elim)); clear ht k0)
    | (go_at_call 8; (refine (HPB.out _ _ (T12.keep0 HT.out K.out) (bounds_text HT1.out HT2.out HT3.out HT4.out HT5.out) (bounds_short hz1 hz2 hz3 hz4 hz5)).mono ?_); rintro e0 w6 ⟨⟨r, kk, rfl, hl⟩, k0⟩; have HL := Lib.hid hl; have K := Lib.hid (K.out.trans k0 (fun _ h => h.elim)); clear k0 hl)
    | (go_at_call 11; (with_reducible refine (IL.out _ _ _ HL.out).mono ?_); rintro e0 w7 ⟨rfl, rfl⟩))
  all_goals go_ret
  all_goals exact ⟨rfl, K.out⟩

set_option maxHeartbeats 4000000 in
theorem bounds_6 {w : World} (hT : T12 w) (HB : Hid (Calls Tryz.prog 6 #[] w fun e w' => e = .returned (.bool true) ∧ Keep (fun _ => False) w w')) {a b c d e : Int} (la : -9223372036854775808 ≤ a) (ua : a ≤ 9223372036854775807) (lb : -9223372036854775808 ≤ b) (ub : b ≤ 9223372036854775807) (lc : -9223372036854775808 ≤ c) (uc : c ≤ 9223372036854775807) (ld : -9223372036854775808 ≤ d) (ud : d ≤ 9223372036854775807) (le : -9223372036854775808 ≤ e) (ue : e ≤ 9223372036854775807) (h0 : 0 ≤ a) (h1 : a ≤ 100) (h2 : 0 ≤ b) (h3 : b ≤ 1073741824) (h4 : 1 ≤ c) (h5 : c ≤ 10000) (h6 : ¬ 0 ≤ d) :
    Calls Tryz.prog 4 #[.int .i64 a, .int .i64 b, .int .i64 c, .int .i64 d, .int .i64 e] w fun e' w' => e' = .returned (.bool true) ∧ Keep (fun _ => False) w w' := by
  have HT := Lib.hid hT
  have HPB := Lib.hid (pb_bad (a := a) (b := b) (c := c) (d := d) (e := e) (by
    rw [Bool.eq_false_iff]
    intro h
    unfold okAll okP okM inB at h
    simp at h
    omega))
  unfold PB at HPB
  have d0 : decide (0 ≤ a) = true := by rw [decide_eq_true_eq]; exact h0
  have d1 : decide (a ≤ 100) = true := by rw [decide_eq_true_eq]; exact h1
  have d2 : decide (0 ≤ b) = true := by rw [decide_eq_true_eq]; exact h2
  have d3 : decide (b ≤ 1073741824) = true := by rw [decide_eq_true_eq]; exact h3
  have d4 : decide (1 ≤ c) = true := by rw [decide_eq_true_eq]; exact h4
  have d5 : decide (c ≤ 10000) = true := by rw [decide_eq_true_eq]; exact h5
  have d6 : decide (0 ≤ d) = false := by rw [decide_eq_false_iff_not]; exact h6
  have PR1 := Lib.hid (fun w => refPrint_any a la ua (w := w))
  have PS1 := Lib.hid (fun t ht => print_size (z := a) la ua (t := t) ht)
  have PR2 := Lib.hid (fun w => refPrint_any b lb ub (w := w))
  have PS2 := Lib.hid (fun t ht => print_size (z := b) lb ub (t := t) ht)
  have PR3 := Lib.hid (fun w => refPrint_any c lc uc (w := w))
  have PS3 := Lib.hid (fun t ht => print_size (z := c) lc uc (t := t) ht)
  have PR4 := Lib.hid (fun w => refPrint_any d ld ud (w := w))
  have PS4 := Lib.hid (fun t ht => print_size (z := d) ld ud (t := t) ht)
  have PR5 := Lib.hid (fun w => refPrint_any e le ue (w := w))
  have PS5 := Lib.hid (fun t ht => print_size (z := e) le ue (t := t) ht)
  have IL := Lib.hid (fun w r k (h : LErr w r k) => isF_line h)
  simp only [lineErr] at HPB IL
  clear hT la ua lb ub lc uc ld ud le ue h0 h1 h2 h3 h4 h5 h6
  go_enter Tryz.func4, Tryz.ntmps4
  go_wp2_with (first
    | (go_at_call 6; (with_reducible refine HB.out.mono ?_); rintro e0 w0 ⟨rfl, k0⟩; have K := Lib.hid k0; clear k0)
    | (go_at_call 14; (with_reducible refine (PR1.out _).mono ?_); rintro e0 w1 ⟨⟨t1, rfl, ht⟩, k0⟩; have HT1 := Lib.hid ht; have hz1 := PS1.out t1 ht; have K := Lib.hid (K.out.trans k0 (fun _ h => h.elim)); clear ht k0)
    | (go_at_call 14; (with_reducible refine (PR2.out _).mono ?_); rintro e0 w2 ⟨⟨t2, rfl, ht⟩, k0⟩; have HT2 := Lib.hid ht; have hz2 := PS2.out t2 ht; have K := Lib.hid (K.out.trans k0 (fun _ h => h.elim)); clear ht k0)
    | (go_at_call 14; (with_reducible refine (PR3.out _).mono ?_); rintro e0 w3 ⟨⟨t3, rfl, ht⟩, k0⟩; have HT3 := Lib.hid ht; have hz3 := PS3.out t3 ht; have K := Lib.hid (K.out.trans k0 (fun _ h => h.elim)); clear ht k0)
    | (go_at_call 14; (with_reducible refine (PR4.out _).mono ?_); rintro e0 w4 ⟨⟨t4, rfl, ht⟩, k0⟩; have HT4 := Lib.hid ht; have hz4 := PS4.out t4 ht; have K := Lib.hid (K.out.trans k0 (fun _ h => h.elim)); clear ht k0)
    | (go_at_call 14; (with_reducible refine (PR5.out _).mono ?_); rintro e0 w5 ⟨⟨t5, rfl, ht⟩, k0⟩; have HT5 := Lib.hid ht; have hz5 := PS5.out t5 ht; have K := Lib.hid (K.out.trans k0 (fun _ h => h.elim)); clear ht k0)
    | (go_at_call 8; (refine (HPB.out _ _ (T12.keep0 HT.out K.out) (bounds_text HT1.out HT2.out HT3.out HT4.out HT5.out) (bounds_short hz1 hz2 hz3 hz4 hz5)).mono ?_); rintro e0 w6 ⟨⟨r, kk, rfl, hl⟩, k0⟩; have HL := Lib.hid hl; have K := Lib.hid (K.out.trans k0 (fun _ h => h.elim)); clear k0 hl)
    | (go_at_call 11; (with_reducible refine (IL.out _ _ _ HL.out).mono ?_); rintro e0 w7 ⟨rfl, rfl⟩))
  all_goals go_ret
  all_goals exact ⟨rfl, K.out⟩

set_option maxHeartbeats 4000000 in
theorem bounds_7 {w : World} (hT : T12 w) (HB : Hid (Calls Tryz.prog 6 #[] w fun e w' => e = .returned (.bool true) ∧ Keep (fun _ => False) w w')) {a b c d e : Int} (la : -9223372036854775808 ≤ a) (ua : a ≤ 9223372036854775807) (lb : -9223372036854775808 ≤ b) (ub : b ≤ 9223372036854775807) (lc : -9223372036854775808 ≤ c) (uc : c ≤ 9223372036854775807) (ld : -9223372036854775808 ≤ d) (ud : d ≤ 9223372036854775807) (le : -9223372036854775808 ≤ e) (ue : e ≤ 9223372036854775807) (h0 : 0 ≤ a) (h1 : a ≤ 100) (h2 : 0 ≤ b) (h3 : b ≤ 1073741824) (h4 : 1 ≤ c) (h5 : c ≤ 10000) (h6 : 0 ≤ d) (h7 : ¬ d ≤ 10000) :
    Calls Tryz.prog 4 #[.int .i64 a, .int .i64 b, .int .i64 c, .int .i64 d, .int .i64 e] w fun e' w' => e' = .returned (.bool true) ∧ Keep (fun _ => False) w w' := by
  have HT := Lib.hid hT
  have HPB := Lib.hid (pb_bad (a := a) (b := b) (c := c) (d := d) (e := e) (by
    rw [Bool.eq_false_iff]
    intro h
    unfold okAll okP okM inB at h
    simp at h
    omega))
  unfold PB at HPB
  have d0 : decide (0 ≤ a) = true := by rw [decide_eq_true_eq]; exact h0
  have d1 : decide (a ≤ 100) = true := by rw [decide_eq_true_eq]; exact h1
  have d2 : decide (0 ≤ b) = true := by rw [decide_eq_true_eq]; exact h2
  have d3 : decide (b ≤ 1073741824) = true := by rw [decide_eq_true_eq]; exact h3
  have d4 : decide (1 ≤ c) = true := by rw [decide_eq_true_eq]; exact h4
  have d5 : decide (c ≤ 10000) = true := by rw [decide_eq_true_eq]; exact h5
  have d6 : decide (0 ≤ d) = true := by rw [decide_eq_true_eq]; exact h6
  have d7 : decide (d ≤ 10000) = false := by rw [decide_eq_false_iff_not]; exact h7
  have PR1 := Lib.hid (fun w => refPrint_any a la ua (w := w))
  have PS1 := Lib.hid (fun t ht => print_size (z := a) la ua (t := t) ht)
  have PR2 := Lib.hid (fun w => refPrint_any b lb ub (w := w))
  have PS2 := Lib.hid (fun t ht => print_size (z := b) lb ub (t := t) ht)
  have PR3 := Lib.hid (fun w => refPrint_any c lc uc (w := w))
  have PS3 := Lib.hid (fun t ht => print_size (z := c) lc uc (t := t) ht)
  have PR4 := Lib.hid (fun w => refPrint_any d ld ud (w := w))
  have PS4 := Lib.hid (fun t ht => print_size (z := d) ld ud (t := t) ht)
  have PR5 := Lib.hid (fun w => refPrint_any e le ue (w := w))
  have PS5 := Lib.hid (fun t ht => print_size (z := e) le ue (t := t) ht)
  have IL := Lib.hid (fun w r k (h : LErr w r k) => isF_line h)
  simp only [lineErr] at HPB IL
  clear hT la ua lb ub lc uc ld ud le ue h0 h1 h2 h3 h4 h5 h6 h7
  go_enter Tryz.func4, Tryz.ntmps4
  go_wp2_with (first
    | (go_at_call 6; (with_reducible refine HB.out.mono ?_); rintro e0 w0 ⟨rfl, k0⟩; have K := Lib.hid k0; clear k0)
    | (go_at_call 14; (with_reducible refine (PR1.out _).mono ?_); rintro e0 w1 ⟨⟨t1, rfl, ht⟩, k0⟩; have HT1 := Lib.hid ht; have hz1 := PS1.out t1 ht; have K := Lib.hid (K.out.trans k0 (fun _ h => h.elim)); clear ht k0)
    | (go_at_call 14; (with_reducible refine (PR2.out _).mono ?_); rintro e0 w2 ⟨⟨t2, rfl, ht⟩, k0⟩; have HT2 := Lib.hid ht; have hz2 := PS2.out t2 ht; have K := Lib.hid (K.out.trans k0 (fun _ h => h.elim)); clear ht k0)
    | (go_at_call 14; (with_reducible refine (PR3.out _).mono ?_); rintro e0 w3 ⟨⟨t3, rfl, ht⟩, k0⟩; have HT3 := Lib.hid ht; have hz3 := PS3.out t3 ht; have K := Lib.hid (K.out.trans k0 (fun _ h => h.elim)); clear ht k0)
    | (go_at_call 14; (with_reducible refine (PR4.out _).mono ?_); rintro e0 w4 ⟨⟨t4, rfl, ht⟩, k0⟩; have HT4 := Lib.hid ht; have hz4 := PS4.out t4 ht; have K := Lib.hid (K.out.trans k0 (fun _ h => h.elim)); clear ht k0)
    | (go_at_call 14; (with_reducible refine (PR5.out _).mono ?_); rintro e0 w5 ⟨⟨t5, rfl, ht⟩, k0⟩; have HT5 := Lib.hid ht; have hz5 := PS5.out t5 ht; have K := Lib.hid (K.out.trans k0 (fun _ h => h.elim)); clear ht k0)
    | (go_at_call 8; (refine (HPB.out _ _ (T12.keep0 HT.out K.out) (bounds_text HT1.out HT2.out HT3.out HT4.out HT5.out) (bounds_short hz1 hz2 hz3 hz4 hz5)).mono ?_); rintro e0 w6 ⟨⟨r, kk, rfl, hl⟩, k0⟩; have HL := Lib.hid hl; have K := Lib.hid (K.out.trans k0 (fun _ h => h.elim)); clear k0 hl)
    | (go_at_call 11; (with_reducible refine (IL.out _ _ _ HL.out).mono ?_); rintro e0 w7 ⟨rfl, rfl⟩))
  all_goals go_ret
  all_goals exact ⟨rfl, K.out⟩

set_option maxHeartbeats 4000000 in
theorem bounds_8 {w : World} (hT : T12 w) (HB : Hid (Calls Tryz.prog 6 #[] w fun e w' => e = .returned (.bool true) ∧ Keep (fun _ => False) w w')) {a b c d e : Int} (la : -9223372036854775808 ≤ a) (ua : a ≤ 9223372036854775807) (lb : -9223372036854775808 ≤ b) (ub : b ≤ 9223372036854775807) (lc : -9223372036854775808 ≤ c) (uc : c ≤ 9223372036854775807) (ld : -9223372036854775808 ≤ d) (ud : d ≤ 9223372036854775807) (le : -9223372036854775808 ≤ e) (ue : e ≤ 9223372036854775807) (h0 : 0 ≤ a) (h1 : a ≤ 100) (h2 : 0 ≤ b) (h3 : b ≤ 1073741824) (h4 : 1 ≤ c) (h5 : c ≤ 10000) (h6 : 0 ≤ d) (h7 : d ≤ 10000) (h8 : ¬ 1 ≤ e) :
    Calls Tryz.prog 4 #[.int .i64 a, .int .i64 b, .int .i64 c, .int .i64 d, .int .i64 e] w fun e' w' => e' = .returned (.bool true) ∧ Keep (fun _ => False) w w' := by
  have HT := Lib.hid hT
  have HPB := Lib.hid (pb_bad (a := a) (b := b) (c := c) (d := d) (e := e) (by
    rw [Bool.eq_false_iff]
    intro h
    unfold okAll okP okM inB at h
    simp at h
    omega))
  unfold PB at HPB
  have d0 : decide (0 ≤ a) = true := by rw [decide_eq_true_eq]; exact h0
  have d1 : decide (a ≤ 100) = true := by rw [decide_eq_true_eq]; exact h1
  have d2 : decide (0 ≤ b) = true := by rw [decide_eq_true_eq]; exact h2
  have d3 : decide (b ≤ 1073741824) = true := by rw [decide_eq_true_eq]; exact h3
  have d4 : decide (1 ≤ c) = true := by rw [decide_eq_true_eq]; exact h4
  have d5 : decide (c ≤ 10000) = true := by rw [decide_eq_true_eq]; exact h5
  have d6 : decide (0 ≤ d) = true := by rw [decide_eq_true_eq]; exact h6
  have d7 : decide (d ≤ 10000) = true := by rw [decide_eq_true_eq]; exact h7
  have d8 : decide (1 ≤ e) = false := by rw [decide_eq_false_iff_not]; exact h8
  have PR1 := Lib.hid (fun w => refPrint_any a la ua (w := w))
  have PS1 := Lib.hid (fun t ht => print_size (z := a) la ua (t := t) ht)
  have PR2 := Lib.hid (fun w => refPrint_any b lb ub (w := w))
  have PS2 := Lib.hid (fun t ht => print_size (z := b) lb ub (t := t) ht)
  have PR3 := Lib.hid (fun w => refPrint_any c lc uc (w := w))
  have PS3 := Lib.hid (fun t ht => print_size (z := c) lc uc (t := t) ht)
  have PR4 := Lib.hid (fun w => refPrint_any d ld ud (w := w))
  have PS4 := Lib.hid (fun t ht => print_size (z := d) ld ud (t := t) ht)
  have PR5 := Lib.hid (fun w => refPrint_any e le ue (w := w))
  have PS5 := Lib.hid (fun t ht => print_size (z := e) le ue (t := t) ht)
  have IL := Lib.hid (fun w r k (h : LErr w r k) => isF_line h)
  simp only [lineErr] at HPB IL
  clear hT la ua lb ub lc uc ld ud le ue h0 h1 h2 h3 h4 h5 h6 h7 h8
  go_enter Tryz.func4, Tryz.ntmps4
  go_wp2_with (first
    | (go_at_call 6; (with_reducible refine HB.out.mono ?_); rintro e0 w0 ⟨rfl, k0⟩; have K := Lib.hid k0; clear k0)
    | (go_at_call 14; (with_reducible refine (PR1.out _).mono ?_); rintro e0 w1 ⟨⟨t1, rfl, ht⟩, k0⟩; have HT1 := Lib.hid ht; have hz1 := PS1.out t1 ht; have K := Lib.hid (K.out.trans k0 (fun _ h => h.elim)); clear ht k0)
    | (go_at_call 14; (with_reducible refine (PR2.out _).mono ?_); rintro e0 w2 ⟨⟨t2, rfl, ht⟩, k0⟩; have HT2 := Lib.hid ht; have hz2 := PS2.out t2 ht; have K := Lib.hid (K.out.trans k0 (fun _ h => h.elim)); clear ht k0)
    | (go_at_call 14; (with_reducible refine (PR3.out _).mono ?_); rintro e0 w3 ⟨⟨t3, rfl, ht⟩, k0⟩; have HT3 := Lib.hid ht; have hz3 := PS3.out t3 ht; have K := Lib.hid (K.out.trans k0 (fun _ h => h.elim)); clear ht k0)
    | (go_at_call 14; (with_reducible refine (PR4.out _).mono ?_); rintro e0 w4 ⟨⟨t4, rfl, ht⟩, k0⟩; have HT4 := Lib.hid ht; have hz4 := PS4.out t4 ht; have K := Lib.hid (K.out.trans k0 (fun _ h => h.elim)); clear ht k0)
    | (go_at_call 14; (with_reducible refine (PR5.out _).mono ?_); rintro e0 w5 ⟨⟨t5, rfl, ht⟩, k0⟩; have HT5 := Lib.hid ht; have hz5 := PS5.out t5 ht; have K := Lib.hid (K.out.trans k0 (fun _ h => h.elim)); clear ht k0)
    | (go_at_call 8; (refine (HPB.out _ _ (T12.keep0 HT.out K.out) (bounds_text HT1.out HT2.out HT3.out HT4.out HT5.out) (bounds_short hz1 hz2 hz3 hz4 hz5)).mono ?_); rintro e0 w6 ⟨⟨r, kk, rfl, hl⟩, k0⟩; have HL := Lib.hid hl; have K := Lib.hid (K.out.trans k0 (fun _ h => h.elim)); clear k0 hl)
    | (go_at_call 11; (with_reducible refine (IL.out _ _ _ HL.out).mono ?_); rintro e0 w7 ⟨rfl, rfl⟩))
  all_goals go_ret
  all_goals exact ⟨rfl, K.out⟩

set_option maxHeartbeats 4000000 in
theorem bounds_9 {w : World} (hT : T12 w) (HB : Hid (Calls Tryz.prog 6 #[] w fun e w' => e = .returned (.bool true) ∧ Keep (fun _ => False) w w')) {a b c d e : Int} (la : -9223372036854775808 ≤ a) (ua : a ≤ 9223372036854775807) (lb : -9223372036854775808 ≤ b) (ub : b ≤ 9223372036854775807) (lc : -9223372036854775808 ≤ c) (uc : c ≤ 9223372036854775807) (ld : -9223372036854775808 ≤ d) (ud : d ≤ 9223372036854775807) (le : -9223372036854775808 ≤ e) (ue : e ≤ 9223372036854775807) (h0 : 0 ≤ a) (h1 : a ≤ 100) (h2 : 0 ≤ b) (h3 : b ≤ 1073741824) (h4 : 1 ≤ c) (h5 : c ≤ 10000) (h6 : 0 ≤ d) (h7 : d ≤ 10000) (h8 : 1 ≤ e) (h9 : ¬ e ≤ 5) :
    Calls Tryz.prog 4 #[.int .i64 a, .int .i64 b, .int .i64 c, .int .i64 d, .int .i64 e] w fun e' w' => e' = .returned (.bool true) ∧ Keep (fun _ => False) w w' := by
  have HT := Lib.hid hT
  have HPB := Lib.hid (pb_bad (a := a) (b := b) (c := c) (d := d) (e := e) (by
    rw [Bool.eq_false_iff]
    intro h
    unfold okAll okP okM inB at h
    simp at h
    omega))
  unfold PB at HPB
  have d0 : decide (0 ≤ a) = true := by rw [decide_eq_true_eq]; exact h0
  have d1 : decide (a ≤ 100) = true := by rw [decide_eq_true_eq]; exact h1
  have d2 : decide (0 ≤ b) = true := by rw [decide_eq_true_eq]; exact h2
  have d3 : decide (b ≤ 1073741824) = true := by rw [decide_eq_true_eq]; exact h3
  have d4 : decide (1 ≤ c) = true := by rw [decide_eq_true_eq]; exact h4
  have d5 : decide (c ≤ 10000) = true := by rw [decide_eq_true_eq]; exact h5
  have d6 : decide (0 ≤ d) = true := by rw [decide_eq_true_eq]; exact h6
  have d7 : decide (d ≤ 10000) = true := by rw [decide_eq_true_eq]; exact h7
  have d8 : decide (1 ≤ e) = true := by rw [decide_eq_true_eq]; exact h8
  have d9 : decide (e ≤ 5) = false := by rw [decide_eq_false_iff_not]; exact h9
  have PR1 := Lib.hid (fun w => refPrint_any a la ua (w := w))
  have PS1 := Lib.hid (fun t ht => print_size (z := a) la ua (t := t) ht)
  have PR2 := Lib.hid (fun w => refPrint_any b lb ub (w := w))
  have PS2 := Lib.hid (fun t ht => print_size (z := b) lb ub (t := t) ht)
  have PR3 := Lib.hid (fun w => refPrint_any c lc uc (w := w))
  have PS3 := Lib.hid (fun t ht => print_size (z := c) lc uc (t := t) ht)
  have PR4 := Lib.hid (fun w => refPrint_any d ld ud (w := w))
  have PS4 := Lib.hid (fun t ht => print_size (z := d) ld ud (t := t) ht)
  have PR5 := Lib.hid (fun w => refPrint_any e le ue (w := w))
  have PS5 := Lib.hid (fun t ht => print_size (z := e) le ue (t := t) ht)
  have IL := Lib.hid (fun w r k (h : LErr w r k) => isF_line h)
  simp only [lineErr] at HPB IL
  clear hT la ua lb ub lc uc ld ud le ue h0 h1 h2 h3 h4 h5 h6 h7 h8 h9
  go_enter Tryz.func4, Tryz.ntmps4
  go_wp2_with (first
    | (go_at_call 6; (with_reducible refine HB.out.mono ?_); rintro e0 w0 ⟨rfl, k0⟩; have K := Lib.hid k0; clear k0)
    | (go_at_call 14; (with_reducible refine (PR1.out _).mono ?_); rintro e0 w1 ⟨⟨t1, rfl, ht⟩, k0⟩; have HT1 := Lib.hid ht; have hz1 := PS1.out t1 ht; have K := Lib.hid (K.out.trans k0 (fun _ h => h.elim)); clear ht k0)
    | (go_at_call 14; (with_reducible refine (PR2.out _).mono ?_); rintro e0 w2 ⟨⟨t2, rfl, ht⟩, k0⟩; have HT2 := Lib.hid ht; have hz2 := PS2.out t2 ht; have K := Lib.hid (K.out.trans k0 (fun _ h => h.elim)); clear ht k0)
    | (go_at_call 14; (with_reducible refine (PR3.out _).mono ?_); rintro e0 w3 ⟨⟨t3, rfl, ht⟩, k0⟩; have HT3 := Lib.hid ht; have hz3 := PS3.out t3 ht; have K := Lib.hid (K.out.trans k0 (fun _ h => h.elim)); clear ht k0)
    | (go_at_call 14; (with_reducible refine (PR4.out _).mono ?_); rintro e0 w4 ⟨⟨t4, rfl, ht⟩, k0⟩; have HT4 := Lib.hid ht; have hz4 := PS4.out t4 ht; have K := Lib.hid (K.out.trans k0 (fun _ h => h.elim)); clear ht k0)
    | (go_at_call 14; (with_reducible refine (PR5.out _).mono ?_); rintro e0 w5 ⟨⟨t5, rfl, ht⟩, k0⟩; have HT5 := Lib.hid ht; have hz5 := PS5.out t5 ht; have K := Lib.hid (K.out.trans k0 (fun _ h => h.elim)); clear ht k0)
    | (go_at_call 8; (refine (HPB.out _ _ (T12.keep0 HT.out K.out) (bounds_text HT1.out HT2.out HT3.out HT4.out HT5.out) (bounds_short hz1 hz2 hz3 hz4 hz5)).mono ?_); rintro e0 w6 ⟨⟨r, kk, rfl, hl⟩, k0⟩; have HL := Lib.hid hl; have K := Lib.hid (K.out.trans k0 (fun _ h => h.elim)); clear k0 hl)
    | (go_at_call 11; (with_reducible refine (IL.out _ _ _ HL.out).mono ?_); rintro e0 w7 ⟨rfl, rfl⟩))
  all_goals go_ret
  all_goals exact ⟨rfl, K.out⟩

set_option maxHeartbeats 4000000 in
theorem bounds_ok {w : World} (hT : T12 w) (HB : Hid (Calls Tryz.prog 6 #[] w fun e w' => e = .returned (.bool true) ∧ Keep (fun _ => False) w w')) {a b c d e : Int} (la : -9223372036854775808 ≤ a) (ua : a ≤ 9223372036854775807) (lb : -9223372036854775808 ≤ b) (ub : b ≤ 9223372036854775807) (lc : -9223372036854775808 ≤ c) (uc : c ≤ 9223372036854775807) (ld : -9223372036854775808 ≤ d) (ud : d ≤ 9223372036854775807) (le : -9223372036854775808 ≤ e) (ue : e ≤ 9223372036854775807) (h0 : 0 ≤ a) (h1 : a ≤ 100) (h2 : 0 ≤ b) (h3 : b ≤ 1073741824) (h4 : 1 ≤ c) (h5 : c ≤ 10000) (h6 : 0 ≤ d) (h7 : d ≤ 10000) (h8 : 1 ≤ e) (h9 : e ≤ 5) :
    Calls Tryz.prog 4 #[.int .i64 a, .int .i64 b, .int .i64 c, .int .i64 d, .int .i64 e] w fun e' w' => e' = .returned (.bool true) ∧ Keep (fun _ => False) w w' := by
  have HT := Lib.hid hT
  have HPB := Lib.hid (pb_ok (a := a) (b := b) (c := c) (d := d) (e := e) (by unfold okAll okP okM inB; simp; omega))
  unfold PB at HPB
  have d0 : decide (0 ≤ a) = true := by rw [decide_eq_true_eq]; exact h0
  have d1 : decide (a ≤ 100) = true := by rw [decide_eq_true_eq]; exact h1
  have d2 : decide (0 ≤ b) = true := by rw [decide_eq_true_eq]; exact h2
  have d3 : decide (b ≤ 1073741824) = true := by rw [decide_eq_true_eq]; exact h3
  have d4 : decide (1 ≤ c) = true := by rw [decide_eq_true_eq]; exact h4
  have d5 : decide (c ≤ 10000) = true := by rw [decide_eq_true_eq]; exact h5
  have d6 : decide (0 ≤ d) = true := by rw [decide_eq_true_eq]; exact h6
  have d7 : decide (d ≤ 10000) = true := by rw [decide_eq_true_eq]; exact h7
  have d8 : decide (1 ≤ e) = true := by rw [decide_eq_true_eq]; exact h8
  have d9 : decide (e ≤ 5) = true := by rw [decide_eq_true_eq]; exact h9
  have PR1 := Lib.hid (fun w => refPrint_any a la ua (w := w))
  have PS1 := Lib.hid (fun t ht => print_size (z := a) la ua (t := t) ht)
  have PR2 := Lib.hid (fun w => refPrint_any b lb ub (w := w))
  have PS2 := Lib.hid (fun t ht => print_size (z := b) lb ub (t := t) ht)
  have PR3 := Lib.hid (fun w => refPrint_any c lc uc (w := w))
  have PS3 := Lib.hid (fun t ht => print_size (z := c) lc uc (t := t) ht)
  have PR4 := Lib.hid (fun w => refPrint_any d ld ud (w := w))
  have PS4 := Lib.hid (fun t ht => print_size (z := d) ld ud (t := t) ht)
  have PR5 := Lib.hid (fun w => refPrint_any e le ue (w := w))
  have PS5 := Lib.hid (fun t ht => print_size (z := e) le ue (t := t) ht)
  have IL := Lib.hid (fun w r k (h : LErr w r k) => isF_line h)
  simp only [lineErr] at HPB IL
  clear hT la ua lb ub lc uc ld ud le ue h0 h1 h2 h3 h4 h5 h6 h7 h8 h9
  go_enter Tryz.func4, Tryz.ntmps4
  go_wp2_with (first
    | (go_at_call 6; (with_reducible refine HB.out.mono ?_); rintro e0 w0 ⟨rfl, k0⟩; have K := Lib.hid k0; clear k0)
    | (go_at_call 14; (with_reducible refine (PR1.out _).mono ?_); rintro e0 w1 ⟨⟨t1, rfl, ht⟩, k0⟩; have HT1 := Lib.hid ht; have hz1 := PS1.out t1 ht; have K := Lib.hid (K.out.trans k0 (fun _ h => h.elim)); clear ht k0)
    | (go_at_call 14; (with_reducible refine (PR2.out _).mono ?_); rintro e0 w2 ⟨⟨t2, rfl, ht⟩, k0⟩; have HT2 := Lib.hid ht; have hz2 := PS2.out t2 ht; have K := Lib.hid (K.out.trans k0 (fun _ h => h.elim)); clear ht k0)
    | (go_at_call 14; (with_reducible refine (PR3.out _).mono ?_); rintro e0 w3 ⟨⟨t3, rfl, ht⟩, k0⟩; have HT3 := Lib.hid ht; have hz3 := PS3.out t3 ht; have K := Lib.hid (K.out.trans k0 (fun _ h => h.elim)); clear ht k0)
    | (go_at_call 14; (with_reducible refine (PR4.out _).mono ?_); rintro e0 w4 ⟨⟨t4, rfl, ht⟩, k0⟩; have HT4 := Lib.hid ht; have hz4 := PS4.out t4 ht; have K := Lib.hid (K.out.trans k0 (fun _ h => h.elim)); clear ht k0)
    | (go_at_call 14; (with_reducible refine (PR5.out _).mono ?_); rintro e0 w5 ⟨⟨t5, rfl, ht⟩, k0⟩; have HT5 := Lib.hid ht; have hz5 := PS5.out t5 ht; have K := Lib.hid (K.out.trans k0 (fun _ h => h.elim)); clear ht k0)
    | (go_at_call 8; (refine (HPB.out _ _ (T12.keep0 HT.out K.out) (bounds_text HT1.out HT2.out HT3.out HT4.out HT5.out) (bounds_short hz1 hz2 hz3 hz4 hz5)).mono ?_); rintro e0 w6 ⟨⟨p, rfl⟩, k0⟩; have K := Lib.hid (K.out.trans k0 (fun _ h => h.elim)); clear k0))
  all_goals go_ret
  all_goals exact ⟨rfl, K.out⟩

theorem bounds_any {w : World} (hT : T12 w) (hg : w.cell? ⟨0, 0, none⟩ = some (.iface 146 (.agg #[.pointer (some ⟨Tryz.prog.globals.size, 26, none⟩)]))) {a b c d e : Int} (la : -9223372036854775808 ≤ a) (ua : a ≤ 9223372036854775807) (lb : -9223372036854775808 ≤ b) (ub : b ≤ 9223372036854775807) (lc : -9223372036854775808 ≤ c) (uc : c ≤ 9223372036854775807) (ld : -9223372036854775808 ≤ d) (ud : d ≤ 9223372036854775807) (le : -9223372036854775808 ≤ e) (ue : e ≤ 9223372036854775807) :
    Calls Tryz.prog 4 #[.int .i64 a, .int .i64 b, .int .i64 c, .int .i64 d, .int .i64 e] w fun e' w' => e' = .returned (.bool true) ∧ Keep (fun _ => False) w w' := by
  have HB := Lib.hid (begun_any hT hg)
  refine (Decidable.em (0 ≤ a)).elim (fun h0 => ?_) (fun h0 => bounds_0 hT HB la ua lb ub lc uc ld ud le ue h0)
  refine (Decidable.em (a ≤ 100)).elim (fun h1 => ?_) (fun h1 => bounds_1 hT HB la ua lb ub lc uc ld ud le ue h0 h1)
  refine (Decidable.em (0 ≤ b)).elim (fun h2 => ?_) (fun h2 => bounds_2 hT HB la ua lb ub lc uc ld ud le ue h0 h1 h2)
  refine (Decidable.em (b ≤ 1073741824)).elim (fun h3 => ?_) (fun h3 => bounds_3 hT HB la ua lb ub lc uc ld ud le ue h0 h1 h2 h3)
  refine (Decidable.em (1 ≤ c)).elim (fun h4 => ?_) (fun h4 => bounds_4 hT HB la ua lb ub lc uc ld ud le ue h0 h1 h2 h3 h4)
  refine (Decidable.em (c ≤ 10000)).elim (fun h5 => ?_) (fun h5 => bounds_5 hT HB la ua lb ub lc uc ld ud le ue h0 h1 h2 h3 h4 h5)
  refine (Decidable.em (0 ≤ d)).elim (fun h6 => ?_) (fun h6 => bounds_6 hT HB la ua lb ub lc uc ld ud le ue h0 h1 h2 h3 h4 h5 h6)
  refine (Decidable.em (d ≤ 10000)).elim (fun h7 => ?_) (fun h7 => bounds_7 hT HB la ua lb ub lc uc ld ud le ue h0 h1 h2 h3 h4 h5 h6 h7)
  refine (Decidable.em (1 ≤ e)).elim (fun h8 => ?_) (fun h8 => bounds_8 hT HB la ua lb ub lc uc ld ud le ue h0 h1 h2 h3 h4 h5 h6 h7 h8)
  refine (Decidable.em (e ≤ 5)).elim (fun h9 => ?_) (fun h9 => bounds_9 hT HB la ua lb ub lc uc ld ud le ue h0 h1 h2 h3 h4 h5 h6 h7 h8 h9)
  exact bounds_ok hT HB la ua lb ub lc uc ld ud le ue h0 h1 h2 h3 h4 h5 h6 h7 h8 h9
end Go.Proofs.YtcodbomgodkcmaaGreatDoor.Wd
