/- Plain mathematics of the CRC-32: a step of one bit, of four by a table, of a byte, of many; each step keeps two sums apart. -/
import Derived.Test.YtibmillfankjfaaGreatDoorRows
import Derived.Laws.BitsAllLaws
namespace Go.Proofs.YtibmillfankjfaaGreatDoor
open Go

/-- One bit shifted out. -/
def bit1 (r : Nat) : Nat := if r % 2 = 1 then r / 2 ^^^ 3988292384 else r / 2

def crcTab : List Int := [0, 498536548, 997073096, 651767980, 1994146192, 1802195444, 1303535960, 1342533948, 3988292384, 4027552580, 3604390888, 3412177804, 2607071920, 2262029012, 2685067896, 3183342108]

def tabAt (i : Nat) : Nat := (crcTab.getD i 0).toNat

/-- Four bits shifted out, by the table. -/
def nib (r : Nat) : Nat := r / 16 ^^^ tabAt (r % 16)

def bits8 (r : Nat) : Nat := bit1 (bit1 (bit1 (bit1 (bit1 (bit1 (bit1 (bit1 r)))))))

def upd (r : Nat) (c : UInt8) : Nat := bits8 (r ^^^ c.toNat)

def crcRun (r : Nat) (l : List UInt8) : Nat := l.foldl upd r

def not32 (r : Nat) : Nat := 4294967295 - r

/-- The sum of what had the sum s, with l behind it. -/
def crcMore (s : Nat) (l : List UInt8) : Nat := not32 (crcRun (not32 s) l)

theorem bit1_lt {r : Nat} (h : r < 4294967296) : bit1 r < 4294967296 := by
  unfold bit1
  split
  · exact Nat.xor_lt_two_pow (n := 32) (by omega) (by omega)
  · omega

theorem bits8_lt {r : Nat} (h : r < 4294967296) : bits8 r < 4294967296 := by
  unfold bits8
  exact bit1_lt (bit1_lt (bit1_lt (bit1_lt (bit1_lt (bit1_lt (bit1_lt (bit1_lt h)))))))

theorem xor_byte_lt {r : Nat} (h : r < 4294967296) (c : UInt8) : r ^^^ c.toNat < 4294967296 := by
  have := c.toNat_lt
  exact Nat.xor_lt_two_pow (n := 32) (by omega) (by omega)

theorem upd_lt {r : Nat} (h : r < 4294967296) (c : UInt8) : upd r c < 4294967296 := bits8_lt (xor_byte_lt h c)

theorem crcRun_lt : ∀ (l : List UInt8) {r : Nat}, r < 4294967296 → crcRun r l < 4294967296
  | [], _, h => h
  | c :: l, _, h => crcRun_lt l (upd_lt h c)

theorem crcRun_append (r : Nat) (a b : List UInt8) : crcRun r (a ++ b) = crcRun (crcRun r a) b := by simp [crcRun]

theorem crcRun_take (r : Nat) (l : List UInt8) (k : Nat) (h : k < l.length) : crcRun r (l.take (k + 1)) = upd (crcRun r (l.take k)) l[k] := by
  rw [List.take_succ_eq_append_getElem h, crcRun_append]; rfl

theorem crcMore_lt (s : Nat) (l : List UInt8) : crcMore s l < 4294967296 := by unfold crcMore not32; omega

theorem not32_lt (r : Nat) : not32 r < 4294967296 := by unfold not32; omega

theorem not32_not32 {r : Nat} (h : r < 4294967296) : not32 (not32 r) = r := by unfold not32; omega

theorem crcMore_append (s : Nat) (a b : List UInt8) : crcMore (crcMore s a) b = crcMore s (a ++ b) := by
  unfold crcMore
  rw [not32_not32 (crcRun_lt _ (not32_lt _)), crcRun_append]

theorem crcMore_nil {s : Nat} (h : s < 4294967296) : crcMore s [] = s := not32_not32 h

/-- The sum of parts, one behind the other. -/
theorem crc_parts : ∀ (ls : List (List UInt8)) {s : Nat}, s < 4294967296 → ls.foldl crcMore s = crcMore s ls.flatten
  | [], s, h => by simp [crcMore_nil h]
  | a :: ls, s, h => by
    rw [List.foldl_cons, crc_parts ls (crcMore_lt s a), crcMore_append]; simp

/-- A step of a bit goes over the parts of a sum. -/
theorem bit1_xor (a b : Nat) : bit1 (a ^^^ b) = bit1 a ^^^ bit1 b := by
  have hd : (a ^^^ b) / 2 = a / 2 ^^^ b / 2 := Nat.xor_div_two
  have hm : (a ^^^ b) % 2 = (a % 2 + b % 2) % 2 := by
    have h1 := Nat.testBit_xor a b 0
    simp only [Nat.testBit_zero] at h1
    have ha : a % 2 = 0 ∨ a % 2 = 1 := by omega
    have hb : b % 2 = 0 ∨ b % 2 = 1 := by omega
    have hc : (a ^^^ b) % 2 = 0 ∨ (a ^^^ b) % 2 = 1 := by omega
    rcases ha with ha | ha <;> rcases hb with hb | hb <;> rcases hc with hc | hc <;> simp_all
  unfold bit1
  rw [hm, hd]
  have ha : a % 2 = 0 ∨ a % 2 = 1 := by omega
  have hb : b % 2 = 0 ∨ b % 2 = 1 := by omega
  rcases ha with ha | ha <;> rcases hb with hb | hb <;> simp only [ha, hb]
  · simp
  · simp [Nat.xor_assoc]
  · simp [Nat.xor_assoc, Nat.xor_comm (b / 2)]
  · rw [if_neg (by omega), if_pos trivial, if_pos trivial]
    rw [Nat.xor_assoc, Nat.xor_comm (b / 2), ← Nat.xor_assoc 3988292384, Nat.xor_self, Nat.zero_xor]

theorem bit1_double (q : Nat) : bit1 (2 * q) = q := by
  unfold bit1
  rw [if_neg (by omega)]; omega

theorem xor_zero_eq {a b : Nat} (h : a ^^^ b = 0) : a = b := by
  have := congrArg (· ^^^ b) h
  simpa [Nat.xor_assoc] using this

theorem bit1_zero {x : Nat} (h : x < 4294967296) (h0 : bit1 x = 0) : x = 0 := by
  unfold bit1 at h0
  split at h0
  · have := xor_zero_eq h0; omega
  · omega

theorem bit1_inj {a b : Nat} (ha : a < 4294967296) (hb : b < 4294967296) (h : bit1 a = bit1 b) : a = b := by
  have h1 : bit1 (a ^^^ b) = 0 := by rw [bit1_xor, h, Nat.xor_self]
  exact xor_zero_eq (bit1_zero (Nat.xor_lt_two_pow (n := 32) (by omega) (by omega)) h1)

theorem bits8_inj {a b : Nat} (ha : a < 4294967296) (hb : b < 4294967296) (h : bits8 a = bits8 b) : a = b := by
  unfold bits8 at h
  have l1 := fun {x : Nat} (h : x < 4294967296) => bit1_lt h
  exact bit1_inj ha hb (bit1_inj (l1 ha) (l1 hb) (bit1_inj (l1 (l1 ha)) (l1 (l1 hb)) (bit1_inj (l1 (l1 (l1 ha))) (l1 (l1 (l1 hb)))
    (bit1_inj (l1 (l1 (l1 (l1 ha)))) (l1 (l1 (l1 (l1 hb)))) (bit1_inj (l1 (l1 (l1 (l1 (l1 ha))))) (l1 (l1 (l1 (l1 (l1 hb)))))
      (bit1_inj (l1 (l1 (l1 (l1 (l1 (l1 ha)))))) (l1 (l1 (l1 (l1 (l1 (l1 hb)))))) (bit1_inj (l1 (l1 (l1 (l1 (l1 (l1 (l1 ha))))))) (l1 (l1 (l1 (l1 (l1 (l1 (l1 hb))))))) h)))))))

theorem xor_inj_right {a b c : Nat} (h : a ^^^ c = b ^^^ c) : a = b := by
  have := congrArg (· ^^^ c) h
  simpa [Nat.xor_assoc] using this

theorem xor_inj_left {a b c : Nat} (h : c ^^^ a = c ^^^ b) : a = b := by
  rw [Nat.xor_comm c, Nat.xor_comm c] at h; exact xor_inj_right h

theorem upd_inj {a b : Nat} (ha : a < 4294967296) (hb : b < 4294967296) (c : UInt8) (h : upd a c = upd b c) : a = b :=
  xor_inj_right (bits8_inj (xor_byte_lt ha c) (xor_byte_lt hb c) h)

theorem upd_byte_inj {r : Nat} (hr : r < 4294967296) {c d : UInt8} (h : upd r c = upd r d) : c = d :=
  UInt8.toNat_inj.1 (xor_inj_left (bits8_inj (xor_byte_lt hr c) (xor_byte_lt hr d) h))

theorem crcRun_inj : ∀ (l : List UInt8) {a b : Nat}, a < 4294967296 → b < 4294967296 → crcRun a l = crcRun b l → a = b
  | [], _, _, _, _, h => h
  | c :: l, _, _, ha, hb, h => upd_inj ha hb c (crcRun_inj l (upd_lt ha c) (upd_lt hb c) h)

/-- A byte that is changed changes the sum. -/
theorem crc_spoilt {s : Nat} (l : List UInt8) (k : Nat) (hk : k < l.length) (d : UInt8) (hd : d ≠ l[k]) : crcMore s (l.set k d) ≠ crcMore s l := by
  intro h
  unfold crcMore at h
  have h1 := crcRun_lt (l.set k d) (not32_lt s)
  have h2 := crcRun_lt l (not32_lt s)
  have h3 : crcRun (not32 s) (l.set k d) = crcRun (not32 s) l := by unfold not32 at h h1 h2 ⊢; omega
  have e1 : l.set k d = l.take k ++ d :: l.drop (k + 1) := by rw [List.set_eq_take_append_cons_drop, if_pos hk]
  have e2 : l = l.take k ++ l[k] :: l.drop (k + 1) := by simp
  rw [e1] at h3
  conv at h3 => rhs; rw [e2]
  rw [crcRun_append, crcRun_append] at h3
  have hp := crcRun_lt (l.take k) (not32_lt s)
  exact hd (upd_byte_inj hp (crcRun_inj (l.drop (k + 1)) (upd_lt hp d) (upd_lt hp l[k]) h3))

theorem nib_tab : ∀ d : Fin 16, bit1 (bit1 (bit1 (bit1 d.val))) = tabAt d.val := by decide

/-- Four bits by the table are four bits one by one. -/
theorem nib_eq (r : Nat) : nib r = bit1 (bit1 (bit1 (bit1 r))) := by
  have e : r = 2 * (2 * (2 * (2 * (r / 16)))) ^^^ r % 16 := by
    have h1 : 2 ^ 4 * (r / 16) ^^^ r % 16 = 2 ^ 4 * (r / 16) + r % 16 := by
      apply Nat.eq_of_testBit_eq
      intro i
      rw [Nat.testBit_xor, Nat.testBit_two_pow_mul_add _ (by omega), Nat.testBit_two_pow_mul]
      by_cases hi : i < 4
      · simp [hi, show ¬ 4 ≤ i by omega]
      · have : (r % 16).testBit i = false := Nat.testBit_lt_two_pow (Nat.lt_of_lt_of_le (by omega : r % 16 < 2 ^ 4) (Nat.pow_le_pow_right (by omega) (by omega)))
        simp [hi, show 4 ≤ i by omega, this]
    have h2 : 2 * (2 * (2 * (2 * (r / 16)))) = 2 ^ 4 * (r / 16) := by omega
    rw [h2, h1]; omega
  have ht := nib_tab ⟨r % 16, by omega⟩
  simp only at ht
  unfold nib
  rw [← ht]
  conv => rhs; rw [e]
  rw [bit1_xor, bit1_xor, bit1_xor, bit1_xor, bit1_double, bit1_double, bit1_double, bit1_double]

theorem upd_nib (r : Nat) (c : UInt8) : upd r c = nib (nib (r ^^^ c.toNat)) := by
  rw [nib_eq (nib _), nib_eq]; rfl

theorem nib_lt {r : Nat} (h : r < 4294967296) : nib r < 4294967296 := by
  rw [nib_eq]; exact bit1_lt (bit1_lt (bit1_lt (bit1_lt h)))

theorem tabAt_lt (i : Nat) (h : i < 16) : tabAt i < 4294967296 := by
  have : ∀ i : Fin 16, tabAt i.val < 4294967296 := by decide
  exact this ⟨i, h⟩

theorem tab_get (i : Nat) (h : i < 16) : crcTab.getD i 0 = (tabAt i : Int) := by
  have : ∀ i : Fin 16, crcTab.getD i.val 0 = (tabAt i.val : Int) := by decide
  exact this ⟨i, h⟩

-- the same in the words of the integers

theorem u32_not {a : Nat} (ha : a < 4294967296) : bits .xor .u32 IntKind.u32.max (a : Int) = (not32 a : Int) := by
  show IntKind.u32.wrap ((BitVec.ofInt 32 4294967295 ^^^ BitVec.ofInt 32 (a : Int)).toNat : Int) = _
  have h1 : BitVec.ofInt 32 4294967295 = BitVec.allOnes 32 := by decide
  rw [h1, BitVec.allOnes_xor, BitVec.toNat_not, ofInt_u32 a (by omega)]
  simp [IntKind.wrap, IntKind.bits, IntKind.signed, not32]
  omega

theorem u32_and15 {a : Nat} (ha : a < 4294967296) : bits .and .u32 (a : Int) 15 = ((a % 16 : Nat) : Int) := by
  have := u32_and_nat a 15 ha (by omega)
  rw [Nat.and_two_pow_sub_one_eq_mod a 4] at this
  exact this

theorem u32_nib {a : Nat} (ha : a < 4294967296) : bits .xor .u32 ((a : Int) / 16) (tabAt (a % 16) : Int) = (nib a : Int) := by
  have := u32_xor_nat (a / 16) (tabAt (a % 16)) (by omega) (tabAt_lt _ (by omega))
  exact this

theorem u32_byte {a : Nat} (ha : a < 4294967296) (c : UInt8) : bits .xor .u32 (a : Int) ((c.toNat : Int) % 4294967296) = ((a ^^^ c.toNat : Nat) : Int) := by
  have hc := c.toNat_lt
  rw [show (c.toNat : Int) % 4294967296 = (c.toNat : Int) by omega]
  exact u32_xor_nat a c.toNat ha (by omega)

theorem u32_bit {a : Nat} (ha : a < 4294967296) (h : a % 2 = 1) : bits .xor .u32 ((a : Int) / 2) 3988292384 = (bit1 a : Int) := by
  have := u32_xor_nat (a / 2) 3988292384 (by omega) (by omega)
  unfold bit1
  rw [if_pos h]
  exact this

theorem bit1_even {a : Nat} (h : ¬ a % 2 = 1) : ((a : Int) / 2) = (bit1 a : Int) := by
  unfold bit1
  rw [if_neg h]; rfl

theorem crc_digits : crcMore 0 [49, 50, 51, 52, 53, 54, 55, 56, 57] = 3421780262 := by decide +kernel

theorem crc_none : crcMore 0 [] = 0 := rfl

end Go.Proofs.YtibmillfankjfaaGreatDoor
