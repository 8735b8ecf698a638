/- Texts as words, lines, numbers (no program): what stage 12 speaks of. -/
import Derived.Test.YtcodbomgodkcmaaGreatDoorGen
namespace Go.Proofs.YtcodbomgodkcmaaGreatDoor.Lin
set_option maxRecDepth 100000

/-! ### numbers in decimal -/
def dig (n : Nat) : UInt8 := UInt8.ofNat (48 + n % 10)
def isDig (c : UInt8) : Bool := decide (48 ≤ c.toNat) && decide (c.toNat ≤ 57)

theorem dig_toNat (n : Nat) : (dig n).toNat = 48 + n % 10 := by
  unfold dig
  rw [UInt8.toNat_ofNat', Nat.mod_eq_of_lt]
  have := Nat.mod_lt n (show 0 < 10 by omega)
  show _ < 256
  omega

theorem dig_is (n : Nat) : isDig (dig n) = true := by
  have := dig_toNat n
  have := Nat.mod_lt n (show 0 < 10 by omega)
  simp [isDig]
  omega

/-- The digits of n, the highest first. -/
def decL (n : Nat) : List UInt8 := if _h : n < 10 then [dig n] else decL (n / 10) ++ [dig n]
  termination_by n
  decreasing_by omega

theorem decL_lt {n : Nat} (h : n < 10) : decL n = [dig n] := by rw [decL, dif_pos h]
theorem decL_ge {n : Nat} (h : ¬ n < 10) : decL n = decL (n / 10) ++ [dig n] := by rw [decL, dif_neg h]

/-- What digits are worth, beginning with a. -/
def numV (a : Nat) (l : List UInt8) : Nat := l.foldl (fun a c => 10 * a + (c.toNat - 48)) a

theorem numV_append (a : Nat) (l m : List UInt8) : numV a (l ++ m) = numV (numV a l) m := by simp [numV, List.foldl_append]
theorem numV_cons (a : Nat) (c : UInt8) (l : List UInt8) : numV a (c :: l) = numV (10 * a + (c.toNat - 48)) l := by unfold numV; rw [List.foldl_cons]
theorem numV_nil (a : Nat) : numV a [] = a := rfl
theorem numV_one (a : Nat) (c : UInt8) : numV a [c] = 10 * a + (c.toNat - 48) := by rw [numV_cons, numV_nil]

theorem decL_ne (n : Nat) : decL n ≠ [] := by
  by_cases h : n < 10
  · rw [decL_lt h]; simp
  · rw [decL_ge h]; simp

theorem numV_dec (n : Nat) : numV 0 (decL n) = n := by
  induction n using Nat.strongRecOn with
  | ind n ih =>
    by_cases h : n < 10
    · rw [decL_lt h, numV_one, dig_toNat]; omega
    · rw [decL_ge h, numV_append, ih (n / 10) (by omega), numV_one, dig_toNat]; omega

theorem decL_digs (n : Nat) : ∀ c ∈ decL n, isDig c = true := by
  induction n using Nat.strongRecOn with
  | ind n ih =>
    intro c hc
    by_cases h : n < 10
    · rw [decL_lt h] at hc
      simp at hc; subst hc; exact dig_is n
    · rw [decL_ge h] at hc
      rcases List.mem_append.1 hc with hc | hc
      · exact ih (n / 10) (by omega) c hc
      · simp at hc; subst hc; exact dig_is n

theorem decL_head (n : Nat) (h0 : 0 < n) : ∃ c r, decL n = c :: r ∧ c ≠ 48 := by
  induction n using Nat.strongRecOn with
  | ind n ih =>
    by_cases h : n < 10
    · refine ⟨_, _, decL_lt h, fun e => ?_⟩
      have := dig_toNat n
      rw [e] at this
      have e2 : (48 : UInt8).toNat = 48 := rfl
      omega
    · obtain ⟨c, r, e, hc⟩ := ih (n / 10) (by omega) (by omega)
      exact ⟨c, r ++ [dig n], by rw [decL_ge h, e]; rfl, hc⟩

theorem decL_len : ∀ (k n : Nat), n < 10 ^ (k + 1) → (decL n).length ≤ k + 1
  | 0, n, h => by rw [decL_lt (by simpa using h)]; simp
  | k + 1, n, h => by
    by_cases h1 : n < 10
    · rw [decL_lt h1]; simp
    · rw [decL_ge h1, List.length_append]
      have := decL_len k (n / 10) (by rw [Nat.pow_succ] at h; omega)
      simp
      omega

theorem decL_min : ∀ (k n : Nat), (decL n).length ≤ k → n < 10 ^ k
  | 0, n, h => absurd (List.eq_nil_of_length_eq_zero (by omega)) (decL_ne n)
  | k + 1, n, h => by
    by_cases h1 : n < 10
    · have : 10 ^ 1 ≤ 10 ^ (k + 1) := Nat.pow_le_pow_right (by omega) (by omega)
      omega
    · rw [decL_ge h1, List.length_append] at h
      have := decL_min k (n / 10) (by simp at h; omega)
      rw [Nat.pow_succ]
      omega

/-- Is a text a number, and which? -/
def numL (l : List UInt8) : Option Nat :=
  if l ≠ [] ∧ l.length ≤ 13 ∧ ¬ (l.head? = some 48 ∧ 1 < l.length) ∧ (∀ c ∈ l, isDig c = true) ∧ numV 0 l ≤ 1099511627776 then some (numV 0 l) else none

theorem numL_dec (n : Nat) : numL (decL n) = if n ≤ 1099511627776 then some n else none := by
  unfold numL
  rw [numV_dec]
  by_cases h : n ≤ 1099511627776
  · rw [if_pos h, if_pos]
    refine ⟨decL_ne n, decL_len 12 n (by omega), fun ⟨h1, h2⟩ => ?_, decL_digs n, h⟩
    by_cases h0 : n < 10
    · rw [decL_lt h0] at h2; simp at h2
    · obtain ⟨c, r, e, hc⟩ := decL_head n (by omega)
      rw [e] at h1
      simp at h1
      exact hc h1
  · rw [if_neg h, if_neg (fun hh => h hh.2.2.2.2)]

theorem numL_bad {c : UInt8} {l : List UInt8} (h : isDig c = false) : numL (c :: l) = none := by
  unfold numL
  rw [if_neg]
  rintro ⟨_, _, _, h4, _⟩
  have := h4 c (by simp)
  rw [h] at this; cases this

/-- Digits without needless noughts are the digits of what they are worth. -/
theorem dec_numV : ∀ (l : List UInt8), (∀ c ∈ l, isDig c = true) → l ≠ [] → ¬ (l.head? = some 48 ∧ 1 < l.length) → decL (numV 0 l) = l := by
  intro l
  induction hk : l.length using Nat.strongRecOn generalizing l with
  | ind k ih =>
    intro hd hne hz
    rcases List.eq_nil_or_concat l with e | ⟨m, c, e⟩
    · exact absurd e hne
    · have e' : l = m ++ [c] := by simpa using e
      subst e'
      have hc := hd c (by simp)
      simp [isDig] at hc
      have hdc : dig (10 * numV 0 m + (c.toNat - 48)) = c := by
        apply UInt8.toNat_inj.1
        rw [dig_toNat]
        omega
      rw [numV_append, numV_one]
      by_cases hm : m = []
      · subst hm
        rw [numV_nil] at hdc ⊢
        rw [decL_lt (by omega), hdc]
        rfl
      · have hz' : ¬ (m.head? = some 48) := fun hh => hz ⟨by rw [List.head?_append]; simp [hh], by have := List.length_pos_iff.2 hm; rw [← hk, List.length_append, List.length_singleton]; omega⟩
        have hi := ih m.length (by rw [← hk]; simp) m rfl (fun x hx => hd x (by simp [hx])) hm (fun hh => hz' hh.1)
        have hpos : 0 < numV 0 m := by
          rcases Nat.eq_zero_or_pos (numV 0 m) with h0 | h0
          · exfalso
            rw [h0, decL_lt (by omega)] at hi
            rw [← hi] at hz'
            exact hz' (by rfl)
          · exact h0
        rw [decL_ge (by omega), hdc]
        rw [show (10 * numV 0 m + (c.toNat - 48)) / 10 = numV 0 m by omega, hi]

/-- A number in decimal. -/
def printL (z : Int) : List UInt8 := if z < 0 then 45 :: decL z.natAbs else decL z.natAbs

theorem numL_print (z : Int) : numL (printL z) = if 0 ≤ z ∧ z ≤ 1099511627776 then some z.toNat else none := by
  unfold printL
  by_cases h : z < 0
  · rw [if_pos h, numL_bad (by decide), if_neg (by omega)]
  · rw [if_neg h, numL_dec]
    by_cases h2 : z ≤ 1099511627776
    · rw [if_pos (by omega), if_pos ⟨by omega, h2⟩]; congr 1; omega
    · rw [if_neg (by omega), if_neg (fun hh => h2 hh.2)]

/-! ### words and lines -/
def isBlank (c : UInt8) : Bool := c == 32 || c == 9

/-- Words, where cur stands already. -/
def wordsGo : List UInt8 → List UInt8 → List (List UInt8)
  | cur, [] => if cur = [] then [] else [cur]
  | cur, c :: r => if isBlank c = true then (if cur = [] then wordsGo [] r else cur :: wordsGo [] r) else wordsGo (cur ++ [c]) r
def wordsL (s : List UInt8) : List (List UInt8) := wordsGo [] s

/-- A byte 13 at the end goes. -/
def strip (cur : List UInt8) : List UInt8 := if cur.getLast? = some 13 then cur.dropLast else cur
def linesGo : List UInt8 → List UInt8 → List (List UInt8)
  | cur, [] => if cur = [] then [] else [cur]
  | cur, c :: r => if c = 10 then strip cur :: linesGo [] r else linesGo (cur ++ [c]) r
def linesL (s : List UInt8) : List (List UInt8) := linesGo [] s

def lowC (c : UInt8) : UInt8 := if 65 ≤ c.toNat ∧ c.toNat ≤ 90 then c + 32 else c
def lowerL (s : List UInt8) : List UInt8 := s.map lowC
def wordB (s : List UInt8) : Bool := decide (1 ≤ s.length) && decide (s.length ≤ 24) && s.all fun c => decide (97 ≤ c.toNat) && decide (c.toNat ≤ 122)

theorem wordsGo_end (cur : List UInt8) : wordsGo cur [] = if cur = [] then [] else [cur] := rfl
theorem wordsGo_blank {cur : List UInt8} {c : UInt8} {r : List UInt8} (h : isBlank c = true) : wordsGo cur (c :: r) = (if cur = [] then [] else [cur]) ++ wordsGo [] r := by
  rw [wordsGo, if_pos h]
  by_cases h0 : cur = []
  · rw [if_pos h0, if_pos h0]; rfl
  · rw [if_neg h0, if_neg h0]; rfl
theorem wordsGo_other {cur : List UInt8} {c : UInt8} {r : List UInt8} (h : isBlank c = false) : wordsGo cur (c :: r) = wordsGo (cur ++ [c]) r := by rw [wordsGo, if_neg (by rw [h]; simp)]
theorem linesGo_end (cur : List UInt8) : linesGo cur [] = if cur = [] then [] else [cur] := rfl
theorem linesGo_ten {cur : List UInt8} {r : List UInt8} : linesGo cur (10 :: r) = strip cur :: linesGo [] r := by rw [linesGo, if_pos rfl]
theorem linesGo_other {cur : List UInt8} {c : UInt8} {r : List UInt8} (h : c ≠ 10) : linesGo cur (c :: r) = linesGo (cur ++ [c]) r := by rw [linesGo, if_neg h]

end Go.Proofs.YtcodbomgodkcmaaGreatDoor.Lin
