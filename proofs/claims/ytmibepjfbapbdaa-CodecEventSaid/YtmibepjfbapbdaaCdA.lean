/- codec: numbers without signs, how many bytes they fill. -/
import Derived.Test.YtmibepjfbapbdaaCdM
import Derived.Test.YtmibepjfbapbdaaArgs
import Derived.Lib.Tables
import Derived.Lib.BitFns
import Derived.Lib.Zigzag
namespace Go.Proofs.Ytmibepjfbapbdaa.Cd
open Go.RowKit Go.Proofs.Ytmibepjfbapbdaa
set_option maxRecDepth 100000

theorem xor64_ones (a : Nat) (ha : a < 18446744073709551616) : bits .xor .u64 (a : Int) 18446744073709551615 = ((18446744073709551615 - a : Nat) : Int) := by
  have h := bits_xor_u64_nat a (2 ^ 64 - 1) ha (by decide)
  rw [Nat.xor_comm, Lib.xor_ones64 a ha] at h
  exact h
theorem xor64_zero (a : Nat) (ha : a < 18446744073709551616) : bits .xor .u64 (a : Int) 0 = (a : Int) := by
  have h := bits_xor_u64_nat a 0 ha (by decide)
  rw [Nat.xor_zero] at h
  exact h
theorem xori_zero (a : Nat) (ha : a < 9223372036854775808) : bits .xor .i64 (a : Int) 0 = (a : Int) := by
  show IntKind.i64.wrap ((BitVec.ofInt 64 (a : Int) ^^^ BitVec.ofInt 64 0).toNat : Int) = _
  have h2 : (BitVec.ofInt 64 (a : Int)).toNat = a := by rw [BitVec.ofInt_natCast, BitVec.toNat_ofNat]; exact Nat.mod_eq_of_lt (by omega)
  rw [BitVec.toNat_xor, h2, show (BitVec.ofInt 64 0).toNat = 0 from rfl, Nat.xor_zero, IntKind.wrap_i64]
  omega
theorem xori_ones (a : Nat) (ha : a < 9223372036854775808) : bits .xor .i64 (a : Int) (-1) = -(a : Int) - 1 := by
  show IntKind.i64.wrap ((BitVec.ofInt 64 (a : Int) ^^^ BitVec.ofInt 64 (-1)).toNat : Int) = _
  have h1 : (BitVec.ofInt 64 (-1)).toNat = 2 ^ 64 - 1 := by decide
  have h2 : (BitVec.ofInt 64 (a : Int)).toNat = a := by rw [BitVec.ofInt_natCast, BitVec.toNat_ofNat]; exact Nat.mod_eq_of_lt (by omega)
  rw [BitVec.toNat_xor, h1, h2, Nat.xor_comm, Lib.xor_ones64 a (by omega), IntKind.wrap_i64]
  omega

theorem twist_pos {m : Nat} (h1 : (m : Int) ≤ 9223372036854775807) : bits .xor .u64 ((m : Int) * 2) ((m : Int) / 9223372036854775808) = (twist (m : Int) : Int) := by
  have e1 : (m : Int) / 9223372036854775808 = 0 := by omega
  have e2 : ((m : Int) * 2) = ((m * 2 : Nat) : Int) := by omega
  have e3 : twist (m : Int) = m * 2 := by unfold twist; rw [if_pos (by omega)]; omega
  rw [e1, e2, e3]; exact xor64_zero (m * 2) (by omega)
theorem twist_neg {n : Int} (h1 : -9223372036854775808 ≤ n) (h : n < 0) : bits .xor .u64 (IntKind.u64.wrap (IntKind.u64.wrap n * 2)) (IntKind.u64.wrap (n / 9223372036854775808)) = (twist n : Int) := by
  obtain ⟨m, hm⟩ : ∃ m : Nat, 2 * n + 18446744073709551616 = m := ⟨(2 * n + 18446744073709551616).toNat, by omega⟩
  have e1 : IntKind.u64.wrap (n / 9223372036854775808) = 18446744073709551615 := by rw [IntKind.wrap_u64]; omega
  have e2 : IntKind.u64.wrap (IntKind.u64.wrap n * 2) = (m : Int) := by rw [IntKind.wrap_u64, IntKind.wrap_u64]; omega
  have e3 : twist n = 18446744073709551615 - m := by unfold twist; rw [if_neg (by omega)]; omega
  rw [e1, e2, e3]; exact xor64_ones m (by omega)

theorem twisted_any {n : Int} (hn : okN n) (w : World) : Calls Try.prog 68 #[.int .i64 n] w fun e w' => e = .returned (.int .u64 (twist n : Int)) ∧ w' = w := by
  obtain ⟨h1, h2⟩ := hn
  by_cases h : 0 ≤ n
  · obtain ⟨m, rfl⟩ : ∃ m : Nat, n = m := ⟨n.toNat, by omega⟩
    have e4 := Lib.hid (twist_pos h2)
    go_enter Try.func68, Try.ntmps68
    go_wp2
    go_ret
    rw [e4.out]; exact ⟨rfl, rfl⟩
  · have h3 : n < 0 := by omega
    have e4 := Lib.hid (twist_neg h1 h3)
    clear h
    go_enter Try.func68, Try.ntmps68
    go_wp2
    go_ret
    rw [e4.out]; exact ⟨rfl, rfl⟩

theorem bitLen_ge {x k : Nat} (h : 2 ^ k ≤ x) (hx : x < 2 ^ 64) : k + 1 ≤ Lib.bitLen x := by
  rw [Lib.bitLen_shift k x h hx]
  have h1 : 1 ≤ x / 2 ^ k := (Nat.one_le_div_iff (Nat.two_pow_pos k)).2 h
  have h2 : x / 2 ^ k < 2 ^ 64 := Nat.lt_of_le_of_lt (Nat.div_le_self _ _) hx
  have := Lib.bitLen_half (x / 2 ^ k) (by omega) h2
  omega
theorem size_len (u : Nat) (h : u < 18446744073709551616) : (Lib.bitLen u + 7) / 8 = sizeB u := by
  have up := fun k hk => Lib.bitLen_le u k hk
  have lo := fun k hk => bitLen_ge (x := u) (k := k) hk h
  unfold sizeB
  split
  · next e => subst e; rfl
  · split
    · next e => have := up 8 (by omega) e; have := lo 0 (by simp; omega); omega
    · split
      · next e => have := up 16 (by omega) e; have := lo 8 (by simp; omega); omega
      · split
        · next e => have := up 24 (by omega) e; have := lo 16 (by simp; omega); omega
        · split
          · next e => have := up 32 (by omega) e; have := lo 24 (by simp; omega); omega
          · split
            · next e => have := up 40 (by omega) e; have := lo 32 (by simp; omega); omega
            · split
              · next e => have := up 48 (by omega) e; have := lo 40 (by simp; omega); omega
              · split
                · next e => have := up 56 (by omega) e; have := lo 48 (by simp; omega); omega
                · have := up 64 (by omega) h; have := lo 56 (by simp; omega); omega

theorem tab256 : Lib.len8tab.size = 256 := Lib.len8tab_size
theorem l8 (y : Int) (h : y.toNat < Lib.len8tab.size) (h0 : 0 ≤ y) (h1 : y ≤ 255) : ((Lib.len8tab[y.toNat]'h).toNat : Int) = (Lib.bitLen y.toNat : Int) ∧ Lib.bitLen y.toNat ≤ 8 := by
  refine ⟨?_, Lib.bitLen_le8' y h0 h1⟩
  have e := Lib.len8_of y h0 h1
  unfold Lib.len8 at e
  rw [getElem?_pos Lib.len8tab y.toNat h] at e
  exact e
theorem way {x y : Int} (k : Nat) (hk : k ≤ 56) (h : y.toNat < Lib.len8tab.size) (h0 : 0 ≤ y) (h1 : y ≤ 255) (hx : Lib.bitLen x.toNat = k + Lib.bitLen y.toNat) :
    wrap64 ((k : Int) + wrap64 ((Lib.len8tab[y.toNat]'h).toNat : Int)) = (Lib.bitLen x.toNat : Int) := by
  obtain ⟨e, l⟩ := l8 y h h0 h1
  rw [e, hx]; unfold wrap64; omega
theorem shifted {x y : Int} (k : Nat) (hy : y.toNat = x.toNat / 2 ^ k) (hk : 2 ^ k ≤ x.toNat) (hx : x.toNat < 2 ^ 64) : Lib.bitLen x.toNat = k + Lib.bitLen y.toNat := by
  rw [hy]; exact Lib.bitLen_shift k x.toNat hk hx

theorem q56 {x : Int} (h0 : 0 ≤ x) (h1 : x ≤ 18446744073709551615) (a : 256 ≤ x / 4294967296 / 65536) : 0 ≤ x / 4294967296 / 65536 / 256 ∧ x / 4294967296 / 65536 / 256 ≤ 255 ∧ (x / 4294967296 / 65536 / 256).toNat = x.toNat / 2 ^ 56 ∧ 2 ^ 56 ≤ x.toNat := by
  simp only [Nat.reducePow]; omega
theorem q48 {x : Int} (h0 : 0 ≤ x) (a : 65536 ≤ x / 4294967296) (b : x / 4294967296 / 65536 < 256) : 0 ≤ x / 4294967296 / 65536 ∧ x / 4294967296 / 65536 ≤ 255 ∧ (x / 4294967296 / 65536).toNat = x.toNat / 2 ^ 48 ∧ 2 ^ 48 ≤ x.toNat := by
  simp only [Nat.reducePow]; omega
theorem q40 {x : Int} (h0 : 0 ≤ x) (a : x / 4294967296 < 65536) (b : 256 ≤ x / 4294967296) : 0 ≤ x / 4294967296 / 256 ∧ x / 4294967296 / 256 ≤ 255 ∧ (x / 4294967296 / 256).toNat = x.toNat / 2 ^ 40 ∧ 2 ^ 40 ≤ x.toNat := by
  simp only [Nat.reducePow]; omega
theorem q32 {x : Int} (_ : 0 ≤ x) (a : 4294967296 ≤ x) (b : x / 4294967296 < 256) : 0 ≤ x / 4294967296 ∧ x / 4294967296 ≤ 255 ∧ (x / 4294967296).toNat = x.toNat / 2 ^ 32 ∧ 2 ^ 32 ≤ x.toNat := by
  simp only [Nat.reducePow]; omega
theorem q24 {x : Int} (h0 : 0 ≤ x) (a : x < 4294967296) (b : 256 ≤ x / 65536) : 0 ≤ x / 65536 / 256 ∧ x / 65536 / 256 ≤ 255 ∧ (x / 65536 / 256).toNat = x.toNat / 2 ^ 24 ∧ 2 ^ 24 ≤ x.toNat := by
  simp only [Nat.reducePow]; omega
theorem q16 {x : Int} (_ : 0 ≤ x) (a : 65536 ≤ x) (b : x / 65536 < 256) : 0 ≤ x / 65536 ∧ x / 65536 ≤ 255 ∧ (x / 65536).toNat = x.toNat / 2 ^ 16 ∧ 2 ^ 16 ≤ x.toNat := by
  simp only [Nat.reducePow]; omega
theorem q8 {x : Int} (h0 : 0 ≤ x) (a : x < 65536) (b : 256 ≤ x) : 0 ≤ x / 256 ∧ x / 256 ≤ 255 ∧ (x / 256).toNat = x.toNat / 2 ^ 8 ∧ 2 ^ 8 ≤ x.toNat := by
  simp only [Nat.reducePow]; omega

set_option maxHeartbeats 32000000 in
set_option maxRecDepth 1000000 in
theorem len64_any (x : Int) (h0 : 0 ≤ x) (h1 : x ≤ 18446744073709551615) (w : World) : Calls Try.prog 84 #[.int .u64 x] w fun e w' => e = .returned (.int .i64 (Lib.bitLen x.toNat : Int)) ∧ w' = w := by
  have hx : x.toNat < 2 ^ 64 := by simp only [Nat.reducePow]; omega
  have HX := Lib.hid hx
  clear hx
  go_enter Try.func84, Try.ntmps84
  go_wp2
  all_goals first
    | (go_ret
       refine ⟨congrArg Ending.returned (congrArg (Value.int IntKind.i64) ?_), rfl⟩
       first
         | (have q := q56 h0 h1 (by assumption); exact way 56 (by decide) _ q.1 q.2.1 (shifted 56 q.2.2.1 q.2.2.2 HX.out))
         | (have q := q48 h0 (by assumption) (by assumption); exact way 48 (by decide) _ q.1 q.2.1 (shifted 48 q.2.2.1 q.2.2.2 HX.out))
         | (have q := q40 h0 (by assumption) (by assumption); exact way 40 (by decide) _ q.1 q.2.1 (shifted 40 q.2.2.1 q.2.2.2 HX.out))
         | (have q := q32 h0 (by assumption) (by assumption); exact way 32 (by decide) _ q.1 q.2.1 (shifted 32 q.2.2.1 q.2.2.2 HX.out))
         | (have q := q24 h0 (by assumption) (by assumption); exact way 24 (by decide) _ q.1 q.2.1 (shifted 24 q.2.2.1 q.2.2.2 HX.out))
         | (have q := q16 h0 (by assumption) (by assumption); exact way 16 (by decide) _ q.1 q.2.1 (shifted 16 q.2.2.1 q.2.2.2 HX.out))
         | (have q := q8 h0 (by assumption) (by assumption); exact way 8 (by decide) _ q.1 q.2.1 (shifted 8 q.2.2.1 q.2.2.2 HX.out))
         | (rw [(l8 x _ h0 (by omega)).1]; have := (l8 x (by rw [tab256]; omega) h0 (by omega)).2; unfold wrap64; omega))
    | (exfalso
       rename_i hz
       refine hz ?_
       rw [tab256]
       clear hz HX
       omega)

/-- How many bytes a number fills, as the program has it. -/
theorem size_any (u : Nat) (h : u < 18446744073709551616) (w : World) : Calls Try.prog 69 #[.int .u64 (u : Int)] w fun e w' => e = .returned (.int .i64 (sizeB u : Int)) ∧ w' = w := by
  have hs := size_len u h
  have hb := Lib.bitLen_le u 64 (by omega) h
  have HC := Lib.hid (len64_any (u : Int) (by omega) (by omega))
  rw [Int.toNat_natCast] at HC
  generalize Lib.bitLen u = l at *
  have he : ((l : Int) + 7) / 8 = (sizeB u : Int) := by omega
  clear hs
  have HE := Lib.hid he
  clear he h
  go_enter Try.func69, Try.ntmps69
  go_wp2_with fail
  refine (HC.out _).mono ?_
  rintro e w2 ⟨rfl, rfl⟩
  go_wp2
  go_ret
  rw [HE.out]; exact ⟨rfl, rfl⟩

end Go.Proofs.Ytmibepjfbapbdaa.Cd
