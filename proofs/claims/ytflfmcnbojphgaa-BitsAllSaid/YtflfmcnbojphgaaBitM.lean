/- Plain mathematics of bits in bytes, no program. -/
import Derived.Test.YtflfmcnbojphgaaRow
import Derived.Lib.Tables
namespace Go.Proofs.Ytflfmcnbojphgaa
set_option maxRecDepth 100000

/-- Bit i % 8 of byte i / 8. -/
def mbit (B : List UInt8) (i : Nat) : Bool := (B.getD (i / 8) 0).toNat.testBit (i % 8)

/-- What holds of every map's bytes. -/
structure MOk (n : Nat) (B : List UInt8) : Prop where
  most : n ≤ 4096
  len : B.length = 512
  clear : ∀ i, n ≤ i → mbit B i = false

def popc (c : UInt8) : Nat := (List.range 8).countP fun r => c.toNat.testBit r

theorem all_u8 {p : UInt8 → Prop} (h : ∀ n : Fin 256, p (UInt8.ofNat n.1)) (c : UInt8) : p c := by
  have := h ⟨c.toNat, c.toNat_lt⟩
  simpa using this

theorem pop_is (c : UInt8) : Lib.pop8 (c.toNat : Int) = (popc c : Int) :=
  all_u8 (p := fun c => Lib.pop8 (c.toNat : Int) = (popc c : Int)) (by decide +kernel) c

theorem popc_le (c : UInt8) : popc c ≤ 8 := by
  have := List.countP_le_length (p := fun r => c.toNat.testBit r) (l := List.range 8)
  simpa [popc] using this

/-- The least bit that is clear. -/
def gap (c : UInt8) : Nat := ((List.range 8).find? fun r => !c.toNat.testBit r).getD 8

theorem ntz_is (c : UInt8) : Lib.ntz8 ((255 - c.toNat : Nat) : Int) = (gap c : Int) :=
  all_u8 (p := fun c => Lib.ntz8 ((255 - c.toNat : Nat) : Int) = (gap c : Int)) (by decide +kernel) c

theorem gap_is (c : UInt8) : c ≠ 255 → gap c < 8 ∧ c.toNat.testBit (gap c) = false ∧ ∀ r, r < gap c → c.toNat.testBit r = true :=
  all_u8 (p := fun c => c ≠ 255 → gap c < 8 ∧ c.toNat.testBit (gap c) = false ∧ ∀ r, r < gap c → c.toNat.testBit r = true) (by decide +kernel) c

theorem full_is : ∀ r, r < 8 → (255 : UInt8).toNat.testBit r = true := by decide +kernel

def cnt (B : List UInt8) (m : Nat) : Nat := (List.range m).countP (mbit B)

theorem cnt_succ (B : List UInt8) (m : Nat) : cnt B (m + 1) = cnt B m + (if mbit B m then 1 else 0) := by
  simp [cnt, List.range_succ, List.countP_append, List.countP_cons]

theorem cnt_le (B : List UInt8) (m : Nat) : cnt B m ≤ m := by
  have := List.countP_le_length (p := mbit B) (l := List.range m)
  simpa [cnt] using this

theorem cnt_byte (B : List UInt8) (k : Nat) : cnt B (8 * (k + 1)) = cnt B (8 * k) + popc (B.getD k 0) := by
  have hb : ∀ r, r < 8 → mbit B (8 * k + r) = (B.getD k 0).toNat.testBit r := by
    intro r hr
    unfold mbit
    rw [show (8 * k + r) / 8 = k by omega, show (8 * k + r) % 8 = r by omega]
  rw [show 8 * (k + 1) = 8 * k + 7 + 1 by omega]
  simp only [cnt_succ, show 8 * k + 7 = 8 * k + 6 + 1 by omega, show 8 * k + 6 = 8 * k + 5 + 1 by omega, show 8 * k + 5 = 8 * k + 4 + 1 by omega, show 8 * k + 4 = 8 * k + 3 + 1 by omega, show 8 * k + 3 = 8 * k + 2 + 1 by omega, show 8 * k + 2 = 8 * k + 1 + 1 by omega, show 8 * k + 1 = 8 * k + 0 + 1 by omega]
  have e : ∀ r, r < 8 → mbit B (8 * k + r) = (B.getD k 0).toNat.testBit r := hb
  have h0 := e 0 (by omega); have h1 := e 1 (by omega); have h2 := e 2 (by omega); have h3 := e 3 (by omega)
  have h4 := e 4 (by omega); have h5 := e 5 (by omega); have h6 := e 6 (by omega); have h7 := e 7 (by omega)
  simp only [Nat.add_zero, Nat.add_assoc, Nat.reduceAdd] at *
  rw [h0, h1, h2, h3, h4, h5, h6, h7]
  simp only [popc, show List.range 8 = [0, 1, 2, 3, 4, 5, 6, 7] from rfl, List.countP_cons, List.countP_nil]
  omega

theorem cnt_clear {n : Nat} {B : List UInt8} (h : ∀ i, n ≤ i → mbit B i = false) : ∀ m, n ≤ m → cnt B m = cnt B n := by
  intro m hm
  obtain ⟨d, rfl⟩ := Nat.exists_eq_add_of_le hm
  induction d with
  | zero => rfl
  | succ d ih =>
    rw [← Nat.add_assoc, cnt_succ, h _ (by omega), ih (by omega)]
    simp

/-- The first k bytes have no bit that is clear. -/
def FullTo (B : List UInt8) (k : Nat) : Prop := ∀ i, i < 8 * k → mbit B i = true

theorem FullTo.step {B : List UInt8} {k : Nat} (h : FullTo B k) (hc : B.getD k 0 = 255) : FullTo B (k + 1) := by
  intro i hi
  by_cases h1 : i < 8 * k
  · exact h i h1
  · unfold mbit
    rw [show i / 8 = k by omega, hc]
    exact full_is _ (by omega)

/-- i is the least number whose bit is clear. -/
def IsLeast (B : List UInt8) (i : Nat) : Prop := mbit B i = false ∧ ∀ j, j < i → mbit B j = true

theorem FullTo.least {B : List UInt8} {k : Nat} (h : FullTo B k) (hc : B.getD k 0 ≠ 255) : IsLeast B (8 * k + gap (B.getD k 0)) := by
  obtain ⟨h1, h2, h3⟩ := gap_is _ hc
  refine ⟨?_, fun j hj => ?_⟩
  · unfold mbit
    rw [show (8 * k + gap (B.getD k 0)) / 8 = k by omega, show (8 * k + gap (B.getD k 0)) % 8 = gap (B.getD k 0) by omega]
    exact h2
  · by_cases h4 : j < 8 * k
    · exact h j h4
    · unfold mbit
      rw [show j / 8 = k by omega]
      exact h3 _ (by omega)

theorem mbit_out {B : List UInt8} {i : Nat} (h : B.length * 8 ≤ i) : mbit B i = false := by
  unfold mbit
  rw [List.getD_eq_getElem?_getD, List.getElem?_eq_none (by omega)]
  simp

theorem FullTo.all {B : List UInt8} (h : FullTo B 512) (hl : B.length = 512) : IsLeast B 4096 :=
  ⟨mbit_out (by omega), fun j hj => h j (by omega)⟩

def u8bit (r : Nat) : UInt8 := UInt8.ofNat (2 ^ r)

def bset (B : List UInt8) (i : Nat) : List UInt8 := B.set (i / 8) (B.getD (i / 8) 0 ||| u8bit (i % 8))
def bclr (B : List UInt8) (i : Nat) : List UInt8 := B.set (i / 8) (B.getD (i / 8) 0 &&& ~~~ u8bit (i % 8))

theorem or_bit (c : UInt8) : ∀ r s : Fin 8, (c ||| u8bit r.1).toNat.testBit s.1 = (decide (s = r) || c.toNat.testBit s.1) :=
  all_u8 (p := fun c => ∀ r s : Fin 8, (c ||| u8bit r.1).toNat.testBit s.1 = (decide (s = r) || c.toNat.testBit s.1)) (by decide +kernel) c
theorem and_bit (c : UInt8) : ∀ r s : Fin 8, (c &&& ~~~ u8bit r.1).toNat.testBit s.1 = (!decide (s = r) && c.toNat.testBit s.1) :=
  all_u8 (p := fun c => ∀ r s : Fin 8, (c &&& ~~~ u8bit r.1).toNat.testBit s.1 = (!decide (s = r) && c.toNat.testBit s.1)) (by decide +kernel) c

theorem mbit_set (B : List UInt8) (q : Nat) (c : UInt8) (j : Nat) (hq : q < B.length) : mbit (B.set q c) j = if j / 8 = q then c.toNat.testBit (j % 8) else mbit B j := by
  unfold mbit
  rw [List.getD_eq_getElem?_getD, List.getElem?_set]
  by_cases h : q = j / 8
  · subst h; simp [hq]
  · have h' : ¬ j / 8 = q := fun e => h e.symm
    simp [h, h', List.getD_eq_getElem?_getD]

theorem mbit_bset {B : List UInt8} {i : Nat} (hi : i / 8 < B.length) (j : Nat) : mbit (bset B i) j = (decide (j = i) || mbit B j) := by
  rw [bset, mbit_set _ _ _ _ hi]
  by_cases h : j / 8 = i / 8
  · rw [if_pos h]
    have := or_bit (B.getD (i / 8) 0) ⟨i % 8, by omega⟩ ⟨j % 8, by omega⟩
    simp only [Fin.mk.injEq] at this
    rw [this]
    congr 1
    · exact decide_eq_decide.2 ⟨fun e => by omega, fun e => by omega⟩
    · unfold mbit; rw [h]
  · rw [if_neg h]
    have : ¬ j = i := fun e => h (by rw [e])
    simp [this]

theorem mbit_bclr {B : List UInt8} {i : Nat} (hi : i / 8 < B.length) (j : Nat) : mbit (bclr B i) j = (!decide (j = i) && mbit B j) := by
  rw [bclr, mbit_set _ _ _ _ hi]
  by_cases h : j / 8 = i / 8
  · rw [if_pos h]
    have := and_bit (B.getD (i / 8) 0) ⟨i % 8, by omega⟩ ⟨j % 8, by omega⟩
    simp only [Fin.mk.injEq] at this
    rw [this]
    congr 1
    · congr 1; exact decide_eq_decide.2 ⟨fun e => by omega, fun e => by omega⟩
    · unfold mbit; rw [h]
  · rw [if_neg h]
    have : ¬ j = i := fun e => h (by rw [e])
    simp [this]

theorem MOk.set {n : Nat} {B : List UInt8} (h : MOk n B) {i : Nat} (hi : i < n) : MOk n (bset B i) :=
  ⟨h.most, by simp [bset, h.len], fun j hj => by
    have := h.most
    rw [mbit_bset (by rw [h.len]; omega), h.clear j hj]
    simp; omega⟩

theorem MOk.clr {n : Nat} {B : List UInt8} (h : MOk n B) {i : Nat} (hi : i < n) : MOk n (bclr B i) :=
  ⟨h.most, by simp [bclr, h.len], fun j hj => by
    have := h.most
    rw [mbit_bclr (by rw [h.len]; omega), h.clear j hj]
    simp⟩

def noBits : List UInt8 := List.replicate 512 0

theorem mbit_none (i : Nat) : mbit noBits i = false := by
  have h : (noBits.getD (i / 8) 0) = 0 := by
    rw [List.getD_eq_getElem?_getD, noBits, List.getElem?_replicate]
    split <;> rfl
  unfold mbit
  rw [h]; simp

theorem MOk.new {n : Nat} (h : n ≤ 4096) : MOk n noBits := ⟨h, by simp [noBits], fun i _ => mbit_none i⟩

end Go.Proofs.Ytflfmcnbojphgaa
