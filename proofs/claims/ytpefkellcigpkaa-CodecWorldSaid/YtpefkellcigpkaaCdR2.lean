/- codec's reader: numbers, lengths, texts, bools. -/
import Derived.Test.YtpefkellcigpkaaCdR1
namespace Go.Proofs.Ytpefkellcigpkaa.Cd
open Go.RowKit Go.Proofs.Ytpefkellcigpkaa
set_option maxRecDepth 100000

theorem or_byte (a c : Nat) (hc : c < 256) (ha : a * 256 + c < 18446744073709551616) : bits .or .u64 ((a : Int) * 256) (c : Int) = ((a * 256 + c : Nat) : Int) := by
  have h := u64_or_nat (a * 256) c (by omega) (by omega)
  have e : a * 256 ||| c = a * 256 + c := by
    have := Nat.shiftLeft_add_eq_or_of_lt (i := 8) (a := a) (b := c) (by simpa using hc)
    rw [Nat.shiftLeft_eq] at this
    exact this.symm
  rw [e] at h
  rw [← h]; simp

/-- While bytes are gathered. -/
structure HiR (w0 : World) (l : List UInt8) (u i : Value) (wr : World) : Prop where
  ex : ∃ k : Nat, k ≤ l.length ∧ i = .int .i64 (k : Int) ∧ u = .int .u64 (hi (l.take k) : Int) ∧ wr = w0

theorem HiR.step {w0 wr : World} {l : List UInt8} {k : Nat} {c : UInt8} (hc : l[k]? = some c) (hw : wr = w0) {z : Int} (hz : z = ((hi (l.take k) * 256 + c.toNat : Nat) : Int)) : HiR w0 l (.int .u64 z) (.int .i64 ((k : Int) + 1)) wr := by
  obtain ⟨hk, hx⟩ := List.getElem?_eq_some_iff.1 hc
  refine ⟨k + 1, by omega, by rw [Int.natCast_add]; rfl, ?_, hw⟩
  rw [List.take_succ_eq_append_getElem hk, hx, hi_snoc, hz]

theorem high_any {B : Nat} {w : World} {g : Nat} {S : R} (h : RdAt B w g S) (k : Nat) (hk : k ≤ 8) : Calls Try.prog 75 #[.pointer (some ⟨g, 0, none⟩), .int .i64 (k : Int)] w fun e w' => e = .returned (.int .u64 (hi (S.take k).1 : Int)) ∧ RdAt B w' g (S.take k).2 ∧ KeepR g w w' := by
  have HT := Lib.hid (take_any h k)
  have hlen := take_len k S
  generalize S.take k = q at *
  obtain ⟨l, S2⟩ := q
  simp only at hlen ⊢
  clear h
  go_enter Try.func75, Try.ntmps75
  go_wp2_with fail
  refine HT.out.mono ?_
  rintro e w2 ⟨a, n, cap, rfl, hn, hs, ho, hr, hkk⟩
  have HR := Lib.hid hr
  have HK := Lib.hid hkk
  have HS := Lib.hid hs
  have HN : Hid (n = l.length) := Lib.hid hn
  have hn8 : (n : Int) ≤ 8 := by simp only at hn; omega
  clear hs ho hr hkk hn hk
  go_wp2_with fail
  go_loopw [5, 12] (fun u i wr => HiR w2 l u i wr) (fun _ i _ => n - (intOf i).toNat)
  case atStart => exact ⟨0, by omega, rfl, rfl, rfl⟩
  case round =>
    obtain ⟨j, hj, rfl, rfl, rfl⟩ := hrel.ex
    clear hrel
    rw [← HN.out] at hj
    by_cases hlt : j < n
    · have hlt1 : (j : Int) < (n : Int) := by omega
      obtain ⟨c, hc⟩ : ∃ c, l[j]? = some c := ⟨_, List.getElem?_eq_getElem (by have := HN.out; omega)⟩
      have hsn := HS.out
      obtain ⟨_, a', cap', hv, _, _, h5⟩ := hsn
      simp only [Value.slice.injEq] at hv
      obtain ⟨rfl, _, rfl⟩ := hv
      rcases h5 with h5 | ⟨g2, off, rfl, _, hcl⟩
      · omega
      · have c0 : wr.cell? ⟨g2, off + j, none⟩ = some (.int .u8 (c.toNat : Int)) := hcl j _ (by simp [bcells, hc])
        have hb := hi_lt (l.take j)
        have hb2 : (256 : Nat) ^ (l.take j).length ≤ 256 ^ 7 := Nat.pow_le_pow_right (by omega) (by rw [List.length_take]; omega)
        have hst := fun hz => HiR.step (w0 := wr) (wr := wr) hc rfl (z := ((hi (l.take j) * 256 + c.toNat : Nat) : Int)) hz
        have HST := Lib.hid (hst rfl)
        have hcl2 := c.toNat_lt
        have hor := or_byte (hi (l.take j)) c.toNat (by omega) (by omega)
        have hU : (hi (l.take j) : Int) < 72057594037927936 := by omega
        generalize hi (l.take j) = U at *
        have hc2 : (c.toNat : Int) ≤ 255 := by omega
        clear hst hcl hc hb hb2 hcl2
        go_wp2_with fail
        go_roundw
        case rel =>
          (repeat apply Exists.intro)
          exact HST.out
        case measure => simp [intOf]; omega
    · obtain rfl : j = n := by omega
      go_wp2
      go_ret
      rw [show l.take j = l from List.take_of_length_le (by have := HN.out; omega)]
      exact ⟨rfl, HR.out, HK.out⟩

theorem or_len (a c : Nat) (hc : c < 16777216) (ha : a ≤ 127) : bits .or .i64 ((a : Int) * 16777216) (c : Int) = (a : Int) * 16777216 + (c : Int) := by
  show IntKind.i64.wrap ((BitVec.ofInt 64 ((a : Int) * 16777216) ||| BitVec.ofInt 64 (c : Int)).toNat : Int) = _
  have h1 : (BitVec.ofInt 64 ((a : Int) * 16777216)).toNat = a * 16777216 := by
    rw [show (a : Int) * 16777216 = ((a * 16777216 : Nat) : Int) by omega, BitVec.ofInt_natCast, BitVec.toNat_ofNat]; exact Nat.mod_eq_of_lt (by omega)
  have h2 : (BitVec.ofInt 64 (c : Int)).toNat = c := by rw [BitVec.ofInt_natCast, BitVec.toNat_ofNat]; exact Nat.mod_eq_of_lt (by omega)
  have e : a * 16777216 ||| c = a * 16777216 + c := by
    have := Nat.shiftLeft_add_eq_or_of_lt (i := 24) (a := a) (b := c) (by simpa using hc)
    rw [Nat.shiftLeft_eq] at this
    exact this.symm
  rw [BitVec.toNat_or, h1, h2, e, IntKind.wrap_i64]
  omega

theorem mark_any {B : Nat} {w : World} {g : Nat} {S : R} (h : RdAt B w g S) (c : UInt8) : Calls Try.prog 34 #[.pointer (some ⟨g, 0, none⟩), .int .u8 (c.toNat : Int)] w fun e w' => e = .returned (.tuple #[]) ∧ RdAt B w' g (if S.byte.1 = c then S.byte.2 else S.byte.2.fail) ∧ KeepR g w w' := by
  have HB := Lib.hid (nextByte_any h)
  clear h
  generalize S.byte = q at *
  obtain ⟨d, S2⟩ := q
  by_cases he : d = c
  · subst he
    rw [if_pos rfl]
    go_enter Try.func34, Try.ntmps34
    go_wp2_with fail
    refine HB.out.mono ?_
    rintro e w2 ⟨rfl, hr, hk⟩
    have HR := Lib.hid hr
    have HK := Lib.hid hk
    clear hr hk
    go_wp2
    go_end0
    exact ⟨rfl, HR.out, HK.out⟩
  · rw [if_neg he]
    have hne : ((d.toNat : Int) == (c.toNat : Int)) = false := by
      rw [beq_eq_false_iff_ne]; intro e; exact he (UInt8.toNat_inj.1 (by omega))
    have hne2 : ((d.toNat : Int) != (c.toNat : Int)) = true := by rw [bne, hne]; rfl
    go_enter Try.func34, Try.ntmps34
    go_wp2_with fail
    refine HB.out.mono ?_
    rintro e w2 ⟨rfl, hr, hk⟩
    have HF := Lib.hid (fail_any hr)
    have HK := Lib.hid hk
    clear hr hk
    go_wp2_with fail
    refine HF.out.mono ?_
    rintro e w3 ⟨rfl, hr, hk⟩
    have HR := Lib.hid hr
    have HK3 := Lib.hid (HK.out.trans hk)
    clear hr hk
    go_wp2
    go_end0
    exact ⟨rfl, HR.out, HK3.out⟩

theorem untw (U : Nat) (h : U < 18446744073709551616) : bits .xor .i64 ((U : Int) / 2) (wrap64 (-wrap64 (bits .and .u64 (U : Int) 1))) = untwist U := by
  rw [Lib.u64_and1 (U : Int) (by omega) (by omega), show (U : Int) / 2 = ((U / 2 : Nat) : Int) by omega]
  unfold untwist
  by_cases he : U % 2 = 0
  · rw [if_pos he, show (U : Int) % 2 = 0 by omega, show wrap64 (-wrap64 0) = 0 by unfold wrap64; rfl]
    exact xori_zero _ (by omega)
  · rw [if_neg he, show (U : Int) % 2 = 1 by omega, show wrap64 (-wrap64 1) = -1 by unfold wrap64; rfl]
    exact xori_ones _ (by omega)

theorem nextNumber_any {B : Nat} {w : World} {g : Nat} {S : R} (h : RdAt B w g S) : Calls Try.prog 35 #[.pointer (some ⟨g, 0, none⟩)] w fun e w' => e = .returned (.int .i64 (decN S).1) ∧ RdAt B w' g (decN S).2 ∧ KeepR g w w' := by
  have HB := Lib.hid (nextByte_any h)
  have e : decN S = if S.byte.1.toNat < 248 then (untwist S.byte.1.toNat, S.byte.2) else
      (untwist (hi (S.byte.2.take (S.byte.1.toNat - 247)).1), if hi (S.byte.2.take (S.byte.1.toNat - 247)).1 < 248 ∨ sizeB (hi (S.byte.2.take (S.byte.1.toNat - 247)).1) ≠ S.byte.1.toNat - 247 then (S.byte.2.take (S.byte.1.toNat - 247)).2.fail else (S.byte.2.take (S.byte.1.toNat - 247)).2) := by
    rfl
  rw [e]
  clear h e
  generalize S.byte = q at *
  obtain ⟨d, S2⟩ := q
  simp only at HB ⊢
  have hd := d.toNat_lt
  generalize d.toNat = c at *
  clear d
  by_cases hc : c < 248
  · rw [if_pos hc]
    have hci : (c : Int) < 248 := by omega
    go_enter Try.func35, Try.ntmps35
    go_wp2_with fail
    refine HB.out.mono ?_
    rintro e w2 ⟨rfl, hr, hk⟩
    have HR := Lib.hid hr
    have HK := Lib.hid hk
    clear hr hk
    go_wp2_with fail
    go_ret
    rw [untw c (by omega)]
    exact ⟨rfl, HR.out, HK.out⟩
  · rw [if_neg hc]
    have hci : 248 ≤ (c : Int) := by omega
    have hci2 : (c : Int) ≤ 255 := by omega
    have hkl := take_len (c - 247) S2
    have hH := fun w (h : RdAt B w g S2) => high_any h (c - 247) (by omega)
    generalize hq : S2.take (c - 247) = q at *
    clear hq
    obtain ⟨l, S3⟩ := q
    simp only at hkl hH ⊢
    have hUl := hi_lt l
    have hUp : (256 : Nat) ^ l.length ≤ 256 ^ 8 := Nat.pow_le_pow_right (by omega) (by omega)
    generalize hi l = U at *
    have hU : U < 18446744073709551616 := by omega
    have hUi : (U : Int) ≤ 18446744073709551615 := by omega
    clear hUl hUp hkl
    obtain ⟨k, hk⟩ : ∃ k, k = c - 247 := ⟨_, rfl⟩
    rw [← hk] at hH ⊢
    have hki : (c : Int) - 247 = (k : Int) := by omega
    have hki2 : (c : Int) - 248 + 1 = (k : Int) := by omega
    have HH := Lib.hid hH
    have HUT := Lib.hid (untw U hU)
    have HZ := Lib.hid (fun w => size_any U hU w)
    have h8 := sizeB_le U
    have hk8 : (k : Int) ≤ 8 := by omega
    generalize sizeB U = z at *
    clear hH hc hd hk
    by_cases hs : U < 248
    · rw [if_pos (.inl hs)]
      have hsi : (U : Int) < 248 := by omega
      go_enter Try.func35, Try.ntmps35
      go_wp2_with fail
      refine HB.out.mono ?_
      rintro e w2 ⟨rfl, hr, hk⟩
      have HH2 := Lib.hid (HH.out _ hr)
      have HK := Lib.hid hk
      clear hr hk
      go_wp2_with fail
      refine HH2.out.mono ?_
      rintro e w3 ⟨rfl, hr, hk⟩
      have HF := Lib.hid (fail_any hr)
      have HK3 := Lib.hid (HK.out.trans hk)
      clear hr hk
      go_wp2_with fail
      refine HF.out.mono ?_
      rintro e w4 ⟨rfl, hr, hk⟩
      have HR := Lib.hid hr
      have HK4 := Lib.hid (HK3.out.trans hk)
      clear hr hk
      go_wp2_with fail
      go_ret
      rw [HUT.out]
      exact ⟨rfl, HR.out, HK4.out⟩
    · have hsi : 248 ≤ (U : Int) := by omega
      by_cases hz : z = k
      · rw [if_neg (by rintro (h | h); exact hs h; exact h hz)]
        subst hz
        go_enter Try.func35, Try.ntmps35
        go_wp2_with fail
        refine HB.out.mono ?_
        rintro e w2 ⟨rfl, hr, hk⟩
        have HH2 := Lib.hid (HH.out _ hr)
        have HK := Lib.hid hk
        clear hr hk
        go_wp2_with fail
        refine HH2.out.mono ?_
        rintro e w3 ⟨rfl, hr, hk⟩
        have HR := Lib.hid hr
        have HK3 := Lib.hid (HK.out.trans hk)
        clear hr hk
        go_wp2_with fail
        refine (HZ.out _).mono ?_
        rintro e w9 ⟨rfl, rfl⟩
        go_wp2_with fail
        go_ret
        rw [HUT.out]
        exact ⟨rfl, HR.out, HK3.out⟩
      · rw [if_pos (.inr hz)]
        have hne : ((z : Int) == (k : Int)) = false := by rw [beq_eq_false_iff_ne]; omega
        have hne2 : ((z : Int) != (k : Int)) = true := by rw [bne, hne]; rfl
        go_enter Try.func35, Try.ntmps35
        go_wp2_with fail
        refine HB.out.mono ?_
        rintro e w2 ⟨rfl, hr, hk⟩
        have HH2 := Lib.hid (HH.out _ hr)
        have HK := Lib.hid hk
        clear hr hk
        go_wp2_with fail
        refine HH2.out.mono ?_
        rintro e w3 ⟨rfl, hr, hk⟩
        have HF := Lib.hid (fail_any hr)
        have HK3 := Lib.hid (HK.out.trans hk)
        clear hr hk
        go_wp2_with fail
        refine (HZ.out _).mono ?_
        rintro e w9 ⟨rfl, rfl⟩
        go_wp2_with fail
        refine HF.out.mono ?_
        rintro e w4 ⟨rfl, hr, hk⟩
        have HR := Lib.hid hr
        have HK4 := Lib.hid (HK3.out.trans hk)
        clear hr hk
        go_wp2_with fail
        go_ret
        rw [HUT.out]
        exact ⟨rfl, HR.out, HK4.out⟩

theorem nextInt_any {B : Nat} {w : World} {g : Nat} {S : R} (h : RdAt B w g S) : Calls Try.prog 62 #[.pointer (some ⟨g, 0, none⟩)] w fun e w' => e = .returned (.int .i64 (decN S).1) ∧ RdAt B w' g (decN S).2 ∧ KeepR g w w' := by
  have HB := Lib.hid (nextNumber_any h)
  clear h
  generalize decN S = q at *
  obtain ⟨z, S2⟩ := q
  simp only at HB ⊢
  go_enter Try.func62, Try.ntmps62
  go_wp2_with fail
  refine HB.out.mono ?_
  rintro e w2 ⟨rfl, hr, hk⟩
  have HR := Lib.hid hr
  have HK := Lib.hid hk
  clear hr hk
  go_wp2
  go_ret
  exact ⟨rfl, HR.out, HK.out⟩

theorem nextBool_any {B : Nat} {w : World} {g : Nat} {S : R} (h : RdAt B w g S) : Calls Try.prog 77 #[.pointer (some ⟨g, 0, none⟩)] w fun e w' => e = .returned (.bool (cB.dec S).1) ∧ RdAt B w' g (cB.dec S).2 ∧ KeepR g w w' := by
  have HB := Lib.hid (nextByte_any h)
  have e : cB.dec S = (S.byte.1 == 1, if 1 < S.byte.1.toNat then S.byte.2.fail else S.byte.2) := rfl
  rw [e]
  clear h e
  generalize S.byte = q at *
  obtain ⟨d, S2⟩ := q
  simp only at HB ⊢
  have he : ((d.toNat : Int) == 1) = (d == 1) := by
    by_cases h1 : d = 1
    · subst h1; rfl
    · have : ¬ (d.toNat : Int) = 1 := fun e => h1 (UInt8.toNat_inj.1 (by simp; omega))
      rw [beq_eq_false_iff_ne.2 this, beq_eq_false_iff_ne.2 h1]
  have HE := Lib.hid he
  clear he
  by_cases hc : 1 < d.toNat
  · rw [if_pos hc]
    have hci : 1 < (d.toNat : Int) := by omega
    go_enter Try.func77, Try.ntmps77
    go_wp2_with fail
    refine HB.out.mono ?_
    rintro e w2 ⟨rfl, hr, hk⟩
    have HF := Lib.hid (fail_any hr)
    have HK := Lib.hid hk
    clear hr hk
    go_wp2_with fail
    refine HF.out.mono ?_
    rintro e w4 ⟨rfl, hr, hk⟩
    have HR := Lib.hid hr
    have HK4 := Lib.hid (HK.out.trans hk)
    clear hr hk
    go_wp2_with fail
    go_ret
    rw [← HE.out]
    exact ⟨rfl, HR.out, HK4.out⟩
  · rw [if_neg hc]
    have hci : (d.toNat : Int) ≤ 1 := by omega
    go_enter Try.func77, Try.ntmps77
    go_wp2_with fail
    refine HB.out.mono ?_
    rintro e w2 ⟨rfl, hr, hk⟩
    have HR := Lib.hid hr
    have HK := Lib.hid hk
    clear hr hk
    go_wp2_with fail
    go_ret
    rw [← HE.out]
    exact ⟨rfl, HR.out, HK.out⟩

theorem nextLength_any {B : Nat} {w : World} {g : Nat} {S : R} (h : RdAt B w g S) : Calls Try.prog 76 #[.pointer (some ⟨g, 0, none⟩)] w fun e w' => e = .returned (.int .i64 ((decL S).1 : Int)) ∧ RdAt B w' g (decL S).2 ∧ KeepR g w w' := by
  have HB := Lib.hid (nextByte_any h)
  have e : decL S = if S.byte.1.toNat < 128 then (S.byte.1.toNat, S.byte.2) else
      ((S.byte.1.toNat - 128) * 16777216 + hi (S.byte.2.take 3).1, if (S.byte.1.toNat - 128) * 16777216 + hi (S.byte.2.take 3).1 < 128 then (S.byte.2.take 3).2.fail else (S.byte.2.take 3).2) := rfl
  rw [e]
  clear h e
  generalize S.byte = q at *
  obtain ⟨d, S2⟩ := q
  simp only at HB ⊢
  have hd := d.toNat_lt
  generalize d.toNat = c at *
  clear d
  by_cases hc : c < 128
  · rw [if_pos hc]
    have hci : (c : Int) < 128 := by omega
    go_enter Try.func76, Try.ntmps76
    go_wp2_with fail
    refine HB.out.mono ?_
    rintro e w2 ⟨rfl, hr, hk⟩
    have HR := Lib.hid hr
    have HK := Lib.hid hk
    clear hr hk
    go_wp2_with fail
    go_ret
    exact ⟨rfl, HR.out, HK.out⟩
  · rw [if_neg hc]
    have hci : 128 ≤ (c : Int) := by omega
    have hci2 : (c : Int) ≤ 255 := by omega
    have hkl := take_len 3 S2
    have hH := fun w (h : RdAt B w g S2) => high_any h 3 (by omega)
    generalize hq : S2.take 3 = q at *
    clear hq
    obtain ⟨l, S3⟩ := q
    simp only at hkl hH ⊢
    have hUl := hi_lt l
    have hUp : (256 : Nat) ^ l.length ≤ 256 ^ 3 := Nat.pow_le_pow_right (by omega) (by omega)
    generalize hi l = U at *
    have hU : U < 16777216 := by omega
    have hUi : (U : Int) ≤ 16777215 := by omega
    obtain ⟨x, hx⟩ : ∃ x, x = c - 128 := ⟨_, rfl⟩
    rw [← hx]
    have hxi : (c : Int) - 128 = (x : Int) := by omega
    have hx2 : (x : Int) ≤ 127 := by omega
    obtain ⟨n, hn⟩ : ∃ n, n = x * 16777216 + U := ⟨_, rfl⟩
    have HN : Hid ((x : Int) * 16777216 + (U : Int) = (n : Int)) := Lib.hid (by omega)
    rw [← hn]
    have hsum := HN.out
    have hor := or_len x U hU (by omega)
    have HH := Lib.hid hH
    clear hUl hUp hkl hH hc hd hx hU
    by_cases hs : n < 128
    · rw [if_pos hs]
      have hsi : (x : Int) * 16777216 + (U : Int) < 128 := by omega
      clear hsum hn
      go_enter Try.func76, Try.ntmps76
      go_wp2_with fail
      refine HB.out.mono ?_
      rintro e w2 ⟨rfl, hr, hk⟩
      have HH2 := Lib.hid (HH.out _ hr)
      have HK := Lib.hid hk
      clear hr hk
      go_wp2_with fail
      refine HH2.out.mono ?_
      rintro e w3 ⟨rfl, hr, hk⟩
      have HF := Lib.hid (fail_any hr)
      have HK3 := Lib.hid (HK.out.trans hk)
      clear hr hk
      go_wp2_with fail
      refine HF.out.mono ?_
      rintro e w4 ⟨rfl, hr, hk⟩
      have HR := Lib.hid hr
      have HK4 := Lib.hid (HK3.out.trans hk)
      clear hr hk
      go_wp2_with fail
      go_ret
      rw [← HN.out]
      exact ⟨rfl, HR.out, HK4.out⟩
    · rw [if_neg hs]
      have hsi : 128 ≤ (x : Int) * 16777216 + (U : Int) := by omega
      clear hsum hn
      go_enter Try.func76, Try.ntmps76
      go_wp2_with fail
      refine HB.out.mono ?_
      rintro e w2 ⟨rfl, hr, hk⟩
      have HH2 := Lib.hid (HH.out _ hr)
      have HK := Lib.hid hk
      clear hr hk
      go_wp2_with fail
      refine HH2.out.mono ?_
      rintro e w3 ⟨rfl, hr, hk⟩
      have HR := Lib.hid hr
      have HK3 := Lib.hid (HK.out.trans hk)
      clear hr hk
      go_wp2_with fail
      go_ret
      rw [← HN.out]
      exact ⟨rfl, HR.out, HK3.out⟩

theorem seen_string {w : World} {a : Option Addr} {n cap : Nat} {l : List UInt8} (hn : n = l.length) (hs : Seen w 1 (.slice a n cap) n (bcells l)) :
    (convert 33 9 (.slice a n cap)).run Try.prog w = .ok (.string ⟨l.toArray⟩) w := by
  obtain ⟨_, a', cap', hv, _, _, h5⟩ := hs
  simp only [Value.slice.injEq] at hv
  obtain ⟨rfl, _, rfl⟩ := hv
  have hbs : ∀ (g off : Nat), (∀ (j : Nat) (u : Value), (bcells l)[j]? = some u → w.cell? ⟨g, off + j, none⟩ = some u) → (convert 33 9 (.slice (some ⟨g, off, none⟩) n cap)).run Try.prog w = .ok (.string ⟨l.toArray⟩) w := fun g off hc =>
    run_string_of_bytes (fun j hj => hc j _ (by simp [bcells, List.getElem?_eq_getElem hj])) _ _ _ n cap hn.symm Try.underlying33 Try.underlying5 Try.underlying9
  rcases h5 with h5 | ⟨g, off, rfl, _, hc⟩
  · have hl : l = [] := List.eq_nil_of_length_eq_zero (by omega)
    subst h5 hl
    cases a with
    | none =>
      rw [run_convert_bytes_string w _ _ _ none 0 cap Try.underlying33 Try.underlying5 Try.underlying9]
      first | rfl | simp [Conv.bytesToString, Sem.run_pure]
    | some p => exact run_convert_bytes_back w _ _ _ p cap [] Try.underlying33 Try.underlying5 Try.underlying9 (fun j hj => by simp at hj)
  · exact hbs g off hc

theorem nextText_any {B : Nat} {w : World} {g : Nat} {S : R} (h : RdAt B w g S) : Calls Try.prog 63 #[.pointer (some ⟨g, 0, none⟩)] w fun e w' => e = .returned (.string (cT.dec S).1) ∧ RdAt B w' g (cT.dec S).2 ∧ KeepR g w w' := by
  have HB := Lib.hid (nextLength_any h)
  have HT := Lib.hid (fun w (h : RdAt B w g (decL S).2) => take_any h (decL S).1)
  have e : cT.dec S = (⟨((decL S).2.take (decL S).1).1.toArray⟩, ((decL S).2.take (decL S).1).2) := rfl
  rw [e]
  have hlt := decL_lt S
  clear h e
  generalize decL S = q at *
  obtain ⟨n, S2⟩ := q
  simp only at HB HT hlt ⊢
  generalize S2.take n = q at *
  obtain ⟨l, S3⟩ := q
  simp only
  have hni : (n : Int) ≤ 2147483647 := by omega
  go_enter Try.func63, Try.ntmps63
  go_wp2_with fail
  refine HB.out.mono ?_
  rintro e w2 ⟨rfl, hr, hk⟩
  have HT2 := Lib.hid (HT.out _ hr)
  have HK := Lib.hid hk
  clear hr hk
  go_wp2_with fail
  refine HT2.out.mono ?_
  rintro e w3 ⟨a, n2, cap, rfl, hn2, hs, ho, hr, hk⟩
  have HR := Lib.hid hr
  have HK3 := Lib.hid (HK.out.trans hk)
  have hcv := seen_string hn2 hs
  clear hr hk hs ho hn2
  go_wp2_with fail
  go_ret
  exact ⟨rfl, HR.out, HK3.out⟩

end Go.Proofs.Ytpefkellcigpkaa.Cd
