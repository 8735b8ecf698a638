/- Texts as words, lines, numbers (no program): what stage 12 speaks of. -/
import Derived.Test.YtheaghgockafmaaGreatGen
import Derived.Test.YtheaghgockafmaaGreatRow
import Derived.Test.YtheaghgockafmaaGreatArgs
import Derived.Lib.IndexBytes
namespace Go.Proofs.YtheaghgockafmaaGreat.Lin
set_option maxRecDepth 100000

/-! ### numbers in decimal -/
def dig (n : Nat) : UInt8 := UInt8.ofNat (48 + n % 10)
def isDig (c : UInt8) : Bool := decide (48 ≤ c.toNat) && decide (c.toNat ≤ 57)

theorem dig_toNat (n : Nat) : (dig n).toNat = 48 + n % 10 := by
  unfold dig
  rw [UInt8.toNat_ofNat', Nat.mod_eq_of_lt]
  have := Nat.mod_lt n (show 0 < 10 by omega)
  show _ < 256
  omega

theorem dig_is (n : Nat) : isDig (dig n) = true := by
  have := dig_toNat n
  have := Nat.mod_lt n (show 0 < 10 by omega)
  simp [isDig]
  omega

/-- The digits of n, the highest first. -/
def decL (n : Nat) : List UInt8 := if _h : n < 10 then [dig n] else decL (n / 10) ++ [dig n]
  termination_by n
  decreasing_by omega

theorem decL_lt {n : Nat} (h : n < 10) : decL n = [dig n] := by rw [decL, dif_pos h]
theorem decL_ge {n : Nat} (h : ¬ n < 10) : decL n = decL (n / 10) ++ [dig n] := by rw [decL, dif_neg h]

/-- What digits are worth, beginning with a. -/
def numV (a : Nat) (l : List UInt8) : Nat := l.foldl (fun a c => 10 * a + (c.toNat - 48)) a

theorem numV_append (a : Nat) (l m : List UInt8) : numV a (l ++ m) = numV (numV a l) m := by simp [numV, List.foldl_append]
theorem numV_cons (a : Nat) (c : UInt8) (l : List UInt8) : numV a (c :: l) = numV (10 * a + (c.toNat - 48)) l := by unfold numV; rw [List.foldl_cons]
theorem numV_nil (a : Nat) : numV a [] = a := rfl
theorem numV_one (a : Nat) (c : UInt8) : numV a [c] = 10 * a + (c.toNat - 48) := by rw [numV_cons, numV_nil]

theorem decL_ne (n : Nat) : decL n ≠ [] := by
  by_cases h : n < 10
  · rw [decL_lt h]; simp
  · rw [decL_ge h]; simp

theorem numV_dec (n : Nat) : numV 0 (decL n) = n := by
  induction n using Nat.strongRecOn with
  | ind n ih =>
    by_cases h : n < 10
    · rw [decL_lt h, numV_one, dig_toNat]; omega
    · rw [decL_ge h, numV_append, ih (n / 10) (by omega), numV_one, dig_toNat]; omega

theorem decL_digs (n : Nat) : ∀ c ∈ decL n, isDig c = true := by
  induction n using Nat.strongRecOn with
  | ind n ih =>
    intro c hc
    by_cases h : n < 10
    · rw [decL_lt h] at hc
      simp at hc; subst hc; exact dig_is n
    · rw [decL_ge h] at hc
      rcases List.mem_append.1 hc with hc | hc
      · exact ih (n / 10) (by omega) c hc
      · simp at hc; subst hc; exact dig_is n

theorem decL_head (n : Nat) (h0 : 0 < n) : ∃ c r, decL n = c :: r ∧ c ≠ 48 := by
  induction n using Nat.strongRecOn with
  | ind n ih =>
    by_cases h : n < 10
    · refine ⟨_, _, decL_lt h, fun e => ?_⟩
      have := dig_toNat n
      rw [e] at this
      have e2 : (48 : UInt8).toNat = 48 := rfl
      omega
    · obtain ⟨c, r, e, hc⟩ := ih (n / 10) (by omega) (by omega)
      exact ⟨c, r ++ [dig n], by rw [decL_ge h, e]; rfl, hc⟩

theorem decL_len : ∀ (k n : Nat), n < 10 ^ (k + 1) → (decL n).length ≤ k + 1
  | 0, n, h => by rw [decL_lt (by simpa using h)]; simp
  | k + 1, n, h => by
    by_cases h1 : n < 10
    · rw [decL_lt h1]; simp
    · rw [decL_ge h1, List.length_append]
      have := decL_len k (n / 10) (by rw [Nat.pow_succ] at h; omega)
      simp
      omega

theorem decL_min : ∀ (k n : Nat), (decL n).length ≤ k → n < 10 ^ k
  | 0, n, h => absurd (List.eq_nil_of_length_eq_zero (by omega)) (decL_ne n)
  | k + 1, n, h => by
    by_cases h1 : n < 10
    · have : 10 ^ 1 ≤ 10 ^ (k + 1) := Nat.pow_le_pow_right (by omega) (by omega)
      omega
    · rw [decL_ge h1, List.length_append] at h
      have := decL_min k (n / 10) (by simp at h; omega)
      rw [Nat.pow_succ]
      omega

/-- Is a text a number, and which? -/
def numL (l : List UInt8) : Option Nat :=
  if l ≠ [] ∧ l.length ≤ 13 ∧ ¬ (l.head? = some 48 ∧ 1 < l.length) ∧ (∀ c ∈ l, isDig c = true) ∧ numV 0 l ≤ 1099511627776 then some (numV 0 l) else none

theorem numL_dec (n : Nat) : numL (decL n) = if n ≤ 1099511627776 then some n else none := by
  unfold numL
  rw [numV_dec]
  by_cases h : n ≤ 1099511627776
  · rw [if_pos h, if_pos]
    refine ⟨decL_ne n, decL_len 12 n (by omega), fun ⟨h1, h2⟩ => ?_, decL_digs n, h⟩
    by_cases h0 : n < 10
    · rw [decL_lt h0] at h2; simp at h2
    · obtain ⟨c, r, e, hc⟩ := decL_head n (by omega)
      rw [e] at h1
      simp at h1
      exact hc h1
  · rw [if_neg h, if_neg (fun hh => h hh.2.2.2.2)]

theorem numL_bad {c : UInt8} {l : List UInt8} (h : isDig c = false) : numL (c :: l) = none := by
  unfold numL
  rw [if_neg]
  rintro ⟨_, _, _, h4, _⟩
  have := h4 c (by simp)
  rw [h] at this; cases this

/-- Digits without needless noughts are the digits of what they are worth. -/
theorem dec_numV : ∀ (l : List UInt8), (∀ c ∈ l, isDig c = true) → l ≠ [] → ¬ (l.head? = some 48 ∧ 1 < l.length) → decL (numV 0 l) = l := by
  intro l
  induction hk : l.length using Nat.strongRecOn generalizing l with
  | ind k ih =>
    intro hd hne hz
    rcases List.eq_nil_or_concat l with e | ⟨m, c, e⟩
    · exact absurd e hne
    · have e' : l = m ++ [c] := by simpa using e
      subst e'
      have hc := hd c (by simp)
      simp [isDig] at hc
      have hdc : dig (10 * numV 0 m + (c.toNat - 48)) = c := by
        apply UInt8.toNat_inj.1
        rw [dig_toNat]
        omega
      rw [numV_append, numV_one]
      by_cases hm : m = []
      · subst hm
        rw [numV_nil] at hdc ⊢
        rw [decL_lt (by omega), hdc]
        rfl
      · have hz' : ¬ (m.head? = some 48) := fun hh => hz ⟨by rw [List.head?_append]; simp [hh], by have := List.length_pos_iff.2 hm; rw [← hk, List.length_append, List.length_singleton]; omega⟩
        have hi := ih m.length (by rw [← hk]; simp) m rfl (fun x hx => hd x (by simp [hx])) hm (fun hh => hz' hh.1)
        have hpos : 0 < numV 0 m := by
          rcases Nat.eq_zero_or_pos (numV 0 m) with h0 | h0
          · exfalso
            rw [h0, decL_lt (by omega)] at hi
            rw [← hi] at hz'
            exact hz' (by rfl)
          · exact h0
        rw [decL_ge (by omega), hdc]
        rw [show (10 * numV 0 m + (c.toNat - 48)) / 10 = numV 0 m by omega, hi]

/-- A number in decimal. -/
def printL (z : Int) : List UInt8 := if z < 0 then 45 :: decL z.natAbs else decL z.natAbs

theorem numL_print (z : Int) : numL (printL z) = if 0 ≤ z ∧ z ≤ 1099511627776 then some z.toNat else none := by
  unfold printL
  by_cases h : z < 0
  · rw [if_pos h, numL_bad (by decide), if_neg (by omega)]
  · rw [if_neg h, numL_dec]
    by_cases h2 : z ≤ 1099511627776
    · rw [if_pos (by omega), if_pos ⟨by omega, h2⟩]; congr 1; omega
    · rw [if_neg (by omega), if_neg (fun hh => h2 hh.2)]

/-! ### words and lines -/
def isBlank (c : UInt8) : Bool := c == 32 || c == 9

/-- Words, where cur stands already. -/
def wordsGo : List UInt8 → List UInt8 → List (List UInt8)
  | cur, [] => if cur = [] then [] else [cur]
  | cur, c :: r => if isBlank c = true then (if cur = [] then wordsGo [] r else cur :: wordsGo [] r) else wordsGo (cur ++ [c]) r
def wordsL (s : List UInt8) : List (List UInt8) := wordsGo [] s

/-- A byte 13 at the end goes. -/
def strip (cur : List UInt8) : List UInt8 := if cur.getLast? = some 13 then cur.dropLast else cur
def linesGo : List UInt8 → List UInt8 → List (List UInt8)
  | cur, [] => if cur = [] then [] else [cur]
  | cur, c :: r => if c = 10 then strip cur :: linesGo [] r else linesGo (cur ++ [c]) r
def linesL (s : List UInt8) : List (List UInt8) := linesGo [] s

def lowC (c : UInt8) : UInt8 := if 65 ≤ c.toNat ∧ c.toNat ≤ 90 then c + 32 else c
def lowerL (s : List UInt8) : List UInt8 := s.map lowC
def wordB (s : List UInt8) : Bool := decide (1 ≤ s.length) && decide (s.length ≤ 24) && s.all fun c => decide (97 ≤ c.toNat) && decide (c.toNat ≤ 122)

theorem wordsGo_end (cur : List UInt8) : wordsGo cur [] = if cur = [] then [] else [cur] := rfl
theorem wordsGo_blank {cur : List UInt8} {c : UInt8} {r : List UInt8} (h : isBlank c = true) : wordsGo cur (c :: r) = (if cur = [] then [] else [cur]) ++ wordsGo [] r := by
  rw [wordsGo, if_pos h]
  by_cases h0 : cur = []
  · rw [if_pos h0, if_pos h0]; rfl
  · rw [if_neg h0, if_neg h0]; rfl
theorem wordsGo_other {cur : List UInt8} {c : UInt8} {r : List UInt8} (h : isBlank c = false) : wordsGo cur (c :: r) = wordsGo (cur ++ [c]) r := by rw [wordsGo, if_neg (by rw [h]; simp)]
theorem linesGo_end (cur : List UInt8) : linesGo cur [] = if cur = [] then [] else [cur] := rfl
theorem linesGo_ten {cur : List UInt8} {r : List UInt8} : linesGo cur (10 :: r) = strip cur :: linesGo [] r := by rw [linesGo, if_pos rfl]
theorem linesGo_other {cur : List UInt8} {c : UInt8} {r : List UInt8} (h : c ≠ 10) : linesGo cur (c :: r) = linesGo (cur ++ [c]) r := by rw [linesGo, if_neg h]

end Go.Proofs.YtheaghgockafmaaGreat.Lin
/- Texts: the reference's Word and Number. -/
namespace Go.Proofs.YtheaghgockafmaaGreat.Lin
open Go.RowKit Go.Maps Go.Proofs.YtheaghgockafmaaGreat
set_option maxRecDepth 100000

def lowB (c : UInt8) : Bool := decide (97 ≤ c.toNat) && decide (c.toNat ≤ 122)

theorem all_of {f : UInt8 → Bool} {s : ByteArray} (h : ∀ j (hs : j < s.size), f s[j] = true) : s.data.toList.all f = true := by
  rw [List.all_eq_true]
  intro c hc
  obtain ⟨j, hj, rfl⟩ := List.mem_iff_getElem.1 hc
  exact h j (by simpa using hj)

theorem all_not {f : UInt8 → Bool} {s : ByteArray} {j : Nat} (hj : j < s.size) (h : f s[j] = false) : s.data.toList.all f = false := by
  rw [← Bool.not_eq_true, List.all_eq_true]
  intro hc
  have := hc s[j] (by
    have e : s[j] = s.data.toList[j]'(by simpa using hj) := rfl
    rw [e]; exact List.getElem_mem _)
  rw [h] at this; cases this

theorem str_len (s : ByteArray) : s.data.toList.length = s.size := rfl

structure AllR (f : UInt8 → Bool) (s : ByteArray) (iv : Value) : Prop where
  ex : ∃ i : Nat, i ≤ s.size ∧ iv = .int .i64 (i : Int) ∧ ∀ j (_ : j < i) (hs : j < s.size), f s[j] = true

theorem AllR.next {f : UInt8 → Bool} {s : ByteArray} {k : Nat} (h : ∀ j (_ : j < k) (hs : j < s.size), f s[j] = true) (hk : k < s.size) (hf : f s[k] = true) : ∀ j (_ : j < k + 1) (hs : j < s.size), f s[j] = true := fun j hj hs => by
  by_cases e : j = k
  · subst e; exact hf
  · exact h j (by omega) hs

theorem ret_iff {x y : Bool} (h : x = true ↔ y = true) : Ending.returned (.bool x) = Ending.returned (.bool y) := by rw [Bool.eq_iff_iff.2 h]

set_option maxHeartbeats 1000000 in
theorem refWord_any (s : ByteArray) (hs : s.size ≤ 1000000) {w : World} : Calls Tryz.prog 98 #[.string s] w fun e w' => e = .returned (.bool (wordB s.data.toList)) ∧ w = w' := by
  obtain ⟨b, hb⟩ : ∃ b, b = wordB s.data.toList := ⟨_, rfl⟩
  rw [← hb]
  have HB := Lib.hid hb
  clear hb
  go_enter Tryz.func98, Tryz.ntmps98
  go_wp2
  go_loop [2, 3] (fun _ iv => AllR lowB s iv) (fun _ iv => s.size - (intOf iv).toNat)
  case atStart => exact ⟨0, by omega, rfl, fun j hj => by omega⟩
  case round =>
    obtain ⟨k, hk, rfl, hall⟩ := hrel.ex
    have HA := Lib.hid hall
    clear hall hrel
    by_cases hlt : k < s.size
    · have HN0 := Lib.hid (fun h : lowB s[k] = false => all_not (f := lowB) hlt h)
      have HR := Lib.hid (AllR.next HA.out hlt)
      have HZ : Hid (lowB s[k] = (decide (97 ≤ (s[k].toNat : Int)) && decide ((s[k].toNat : Int) ≤ 122))) := Lib.hid (by unfold lowB; congr 1 <;> (rw [Bool.eq_iff_iff]; simp; try omega))
      go_wp2
      all_goals
        first
        | (have hz : lowB s[k] = false := by (rw [HZ.out, ← Bool.not_eq_true]; intro e; simp at e; first | omega | (simp at *; omega)))
          (have hn := HN0.out hz)
          go_ret
          exact ⟨by rw [HB.out]; unfold wordB; rw [show (fun c : UInt8 => decide (97 ≤ c.toNat) && decide (c.toNat ≤ 122)) = lowB from rfl, hn, Bool.and_false]; rfl, rfl⟩
        | (have hz : lowB s[k] = true := by (rw [HZ.out]; simp; first | omega | (simp at *; omega)))
          go_round
          case rel => exact ⟨k + 1, by omega, by go_num, HR.out hz⟩
          case measure => simp [intOf]; omega
    · have hd : decide (k < s.size) = false := by rw [decide_eq_false_iff_not]; omega
      have HN := Lib.hid (all_of (f := lowB) fun j hs => HA.out j (by omega) hs)
      go_wp2
      all_goals
        go_ret
        refine ⟨?_, rfl⟩
        rw [HB.out]
        unfold wordB
        rw [show (fun c : UInt8 => decide (97 ≤ c.toNat) && decide (c.toNat ≤ 122)) = lowB from rfl, HN.out, Bool.and_true, str_len]
        exact ret_iff (by first | (simp; done) | (simp; omega))

/-- What Number answers. -/
def numE (l : List UInt8) : Ending := .returned (.tuple #[.int .i64 (((numL l).getD 0 : Nat) : Int), .bool (numL l).isSome])
theorem numE_none {l : List UInt8} (h : numL l = none) : numE l = .returned (.tuple #[.int .i64 0, .bool false]) := by unfold numE; rw [h]; rfl
theorem numE_some {l : List UInt8} {n : Nat} (h : numL l = some n) : numE l = .returned (.tuple #[.int .i64 (n : Int), .bool true]) := by unfold numE; rw [h]; rfl

theorem numL_no {l : List UInt8} (h : l = [] ∨ 13 < l.length ∨ (l.head? = some 48 ∧ 1 < l.length) ∨ l.all isDig = false ∨ 1099511627776 < numV 0 l) : numL l = none := by
  unfold numL
  rw [if_neg]
  rintro ⟨h1, h2, h3, h4, h5⟩
  rcases h with h | h | h | h | h
  · exact h1 h
  · omega
  · exact h3 h
  · have : l.all isDig = true := List.all_eq_true.2 h4
    rw [this] at h; cases h
  · omega
theorem numL_yes {l : List UInt8} (h1 : l ≠ []) (h2 : l.length ≤ 13) (h3 : ¬ (l.head? = some 48 ∧ 1 < l.length)) (h4 : l.all isDig = true) (h5 : numV 0 l ≤ 1099511627776) : numL l = some (numV 0 l) := by
  unfold numL
  rw [if_pos ⟨h1, h2, h3, List.all_eq_true.1 h4, h5⟩]

theorem numV_lt : ∀ (l : List UInt8) (a k : Nat), l.all isDig = true → a < 10 ^ k → numV a l < 10 ^ (k + l.length)
  | [], a, k, _, h => by rw [numV_nil]; simpa using h
  | c :: l, a, k, hd, h => by
    rw [List.all_cons, Bool.and_eq_true] at hd
    have hc := hd.1
    simp [isDig] at hc
    rw [numV_cons, List.length_cons, show k + (l.length + 1) = (k + 1) + l.length by omega]
    exact numV_lt l _ (k + 1) hd.2 (by rw [Nat.pow_succ]; omega)

theorem numV_take {s : ByteArray} {k : Nat} (h : k < s.size) : numV 0 (s.data.toList.take (k + 1)) = 10 * numV 0 (s.data.toList.take k) + (s[k].toNat - 48) := by
  rw [List.take_succ_eq_append_getElem (show k < s.data.toList.length from h), numV_append, numV_one]
  rfl

structure NumR (s : ByteArray) (nv iv : Value) : Prop where
  ex : ∃ i n : Nat, i ≤ s.size ∧ iv = .int .i64 (i : Int) ∧ nv = .int .i64 (n : Int) ∧ n = numV 0 (s.data.toList.take i) ∧ n < 10 ^ i ∧ ∀ j (_ : j < i) (hs : j < s.size), isDig s[j] = true

theorem pow_le13 {i : Nat} (h : i ≤ 13) : 10 ^ i ≤ 10000000000000 := Nat.pow_le_pow_right (n := 10) (by omega) h

set_option maxHeartbeats 1000000 in
theorem refNumber_any (s : ByteArray) {w : World} : Calls Tryz.prog 182 #[.string s] w fun e w' => e = numE s.data.toList ∧ w = w' := by
  by_cases h0 : s.toList = []
  · rw [numE_none (numL_no (.inl (by rw [← ByteArray.toList_eq]; exact h0)))]
    have e0 : s.toList.isEmpty = true := by rw [h0]; rfl
    go_enter Tryz.func182, Tryz.ntmps182
    go_wp2
    go_ret2
    exact ⟨rfl, rfl⟩
  have e0 : s.toList.isEmpty = false := by simp [h0]
  have hne : s.data.toList ≠ [] := by rw [← ByteArray.toList_eq]; exact h0
  have hpos : 0 < s.size := by rw [← str_len]; exact List.length_pos_iff.2 hne
  by_cases h1 : 13 < s.size
  · rw [numE_none (numL_no (.inr (.inl h1)))]
    have d1 : decide (13 < (s.size : Int)) = true := by rw [decide_eq_true_eq]; omega
    clear h0 hne
    go_enter Tryz.func182, Tryz.ntmps182
    go_wp2
    go_ret2
    exact ⟨rfl, rfl⟩
  have d1 : decide (13 < (s.size : Int)) = false := by rw [decide_eq_false_iff_not]; omega
  have hd0 : s.data.toList.head? = some s[0] := by
    rw [List.head?_eq_getElem?, List.getElem?_eq_getElem (show 0 < s.data.toList.length from hpos)]
    rfl
  have c0 : ((s[0].toNat : Int) == 48) = (s[0] == 48) := by
    rw [Bool.eq_iff_iff]
    simp only [beq_iff_eq]
    exact ⟨fun e => UInt8.toNat_inj.1 (by have : (48 : UInt8).toNat = 48 := rfl; omega), fun e => by rw [e]; rfl⟩
  by_cases h2 : s[0] = 48 ∧ 1 < s.size
  · rw [numE_none (numL_no (.inr (.inr (.inl ⟨by rw [hd0, h2.1], h2.2⟩))))]
    have c1 : ((s[0].toNat : Int) == 48) = true := by rw [c0]; simpa using h2.1
    have d2 : decide (1 < (s.size : Int)) = true := by rw [decide_eq_true_eq]; omega
    clear h0 hne hd0 c0 h2
    go_enter Tryz.func182, Tryz.ntmps182
    go_wp2
    go_ret2
    exact ⟨rfl, rfl⟩
  have hn48 : ¬ (s.data.toList.head? = some 48 ∧ 1 < s.data.toList.length) := by
    rw [hd0, str_len]; intro e; exact h2 ⟨by simpa using e.1, e.2⟩
  have d2 : ((s[0].toNat : Int) == 48 && decide (1 < (s.size : Int))) = false := by
    rw [c0, ← Bool.not_eq_true]; intro e; simp at e; exact h2 ⟨e.1, by omega⟩
  have hfin : Hid (s.data.toList.all isDig = true → numV 0 s.data.toList ≤ 1099511627776 → numE s.data.toList = .returned (.tuple #[.int .i64 ((numV 0 s.data.toList : Nat) : Int), .bool true])) := Lib.hid fun ha hv => numE_some (numL_yes hne (by rw [str_len]; omega) hn48 ha hv)
  obtain ⟨E, hE⟩ : ∃ E, E = numE s.data.toList := ⟨_, rfl⟩
  rw [← hE]
  rw [← hE] at hfin
  have HNO : Hid (s.data.toList.all isDig = false → E = .returned (.tuple #[.int .i64 0, .bool false])) := Lib.hid fun h => by rw [hE]; exact numE_none (numL_no (.inr (.inr (.inr (.inl h)))))
  have HBIG : Hid (1099511627776 < numV 0 s.data.toList → E = .returned (.tuple #[.int .i64 0, .bool false])) := Lib.hid fun h => by rw [hE]; exact numE_none (numL_no (.inr (.inr (.inr (.inr h)))))
  have hs13 : s.size ≤ 13 := by omega
  clear h0 hne hd0 h1 h2 hn48 hE
  have hcase : (((s[0].toNat : Int) == 48) = true ∧ decide (1 < (s.size : Int)) = false) ∨ ((s[0].toNat : Int) == 48) = false := by
    cases h : ((s[0].toNat : Int) == 48)
    · exact .inr rfl
    · rw [h] at d2; exact .inl ⟨rfl, by simpa using d2⟩
  clear c0 d2
  rcases hcase with ⟨c1, d3⟩ | c1
  all_goals
    go_enter Tryz.func182, Tryz.ntmps182
    go_wp2
    go_loop [4, 5] (fun nv iv => NumR s nv iv) (fun _ iv => s.size - (intOf iv).toNat)
    case atStart => exact ⟨0, 0, by omega, rfl, rfl, rfl, by decide, fun j hj => by omega⟩
    case round =>
      obtain ⟨k, n, hk, rfl, rfl, hn, hnl, hall⟩ := hrel.ex
      have HA := Lib.hid hall
      have HNV := Lib.hid hn
      have hp13 := pow_le13 (i := k) (by omega)
      clear hall hn hrel
      by_cases hlt : k < s.size
      · have HN0 := Lib.hid (fun h : isDig s[k] = false => all_not (f := isDig) hlt h)
        have HR := Lib.hid (AllR.next HA.out hlt)
        have hcd : (48 ≤ s[k].toNat ∧ s[k].toNat ≤ 57 ∧ isDig s[k] = true) ∨ ((s[k].toNat < 48 ∨ 57 < s[k].toNat) ∧ isDig s[k] = false) := by
          cases h : isDig s[k]
          · refine .inr ⟨?_, rfl⟩
            unfold isDig at h
            rw [← Bool.not_eq_true] at h
            simp at h
            omega
          · refine .inl ?_
            simp [isDig] at h
            exact ⟨h.1, h.2, rfl⟩
        rcases hcd with ⟨z1, z2, hdg⟩ | ⟨z, hdg⟩
        · have g1 : decide ((s[k].toNat : Int) < 48) = false := by rw [decide_eq_false_iff_not]; omega
          have g2 : decide (57 < (s[k].toNat : Int)) = false := by rw [decide_eq_false_iff_not]; omega
          have HG := Lib.hid hdg
          clear hdg
          go_wp2
          go_round
          case rel =>
            refine ⟨k + 1, 10 * n + (s[k].toNat - 48), by omega, by go_num, by congr 1; omega, ?_, ?_, HR.out HG.out⟩
            · rw [numV_take hlt, HNV.out]
            · rw [Nat.pow_succ]; omega
          case measure => simp [intOf]; omega
        · have hE := HNO.out (HN0.out hdg)
          have HE := Lib.hid hE
          clear hdg hE
          by_cases z1 : s[k].toNat < 48
          · have g1 : decide ((s[k].toNat : Int) < 48) = true := by rw [decide_eq_true_eq]; omega
            go_wp2
            go_ret2
            exact ⟨HE.out.symm, rfl⟩
          · have g1 : decide ((s[k].toNat : Int) < 48) = false := by rw [decide_eq_false_iff_not]; omega
            have g2 : decide (57 < (s[k].toNat : Int)) = true := by rw [decide_eq_true_eq]; omega
            go_wp2
            go_ret2
            exact ⟨HE.out.symm, rfl⟩
      · have hd : decide (k < s.size) = false := by rw [decide_eq_false_iff_not]; omega
        have HN := Lib.hid (all_of (f := isDig) fun j hs => HA.out j (by omega) hs)
        have hnv : n = numV 0 s.data.toList := by
          rw [HNV.out, List.take_of_length_le (by rw [str_len]; omega)]
        have hf := hfin.out HN.out
        have hb := HBIG.out
        rw [← hnv] at hf hb
        have HF := Lib.hid hf
        have HB := Lib.hid hb
        clear hf hb hnv
        by_cases hbig : 1099511627776 < n
        · have g : decide (1099511627776 < (n : Int)) = true := by rw [decide_eq_true_eq]; omega
          go_wp2
          go_ret2
          exact ⟨(HB.out hbig).symm, rfl⟩
        · have g : decide (1099511627776 < (n : Int)) = false := by rw [decide_eq_false_iff_not]; omega
          go_wp2
          go_ret2
          exact ⟨(HF.out (by omega)).symm, rfl⟩
end Go.Proofs.YtheaghgockafmaaGreat.Lin
/- Texts: the reference's Print. -/
namespace Go.Proofs.YtheaghgockafmaaGreat.Lin
open Go.RowKit Go.Maps Go.Proofs.YtheaghgockafmaaGreat
set_option maxRecDepth 100000

/-- The digits that are still to come. -/
def restD (n : Nat) : List UInt8 := if n = 0 then [] else decL n
theorem restD_zero : restD 0 = [] := rfl
theorem restD_pos {n : Nat} (h : n ≠ 0) : restD n = decL n := by unfold restD; rw [if_neg h]
theorem restD_step {n : Nat} (h : n ≠ 0) : restD n = restD (n / 10) ++ [dig n] := by
  rw [restD_pos h]
  by_cases h1 : n < 10
  · rw [decL_lt h1, show n / 10 = 0 by omega, restD_zero]; rfl
  · rw [decL_ge h1, restD_pos (by omega)]

structure PrR (z : Int) (w0 : World) (sv kv dv : Value) (wr : World) : Prop where
  ex : ∃ (k : Int) (t : ByteArray), sv = .string t ∧ kv = .int .i64 k ∧ k.natAbs ≤ z.natAbs ∧ -9223372036854775808 ≤ k ∧ k ≤ 9223372036854775807 ∧ restD k.natAbs ++ t.data.toList = decL z.natAbs ∧ Keep (fun x => w0.heap.size ≤ x) w0 wr

theorem conv_one (w : World) (c : UInt8) : (convert 203 9 (.slice (some ⟨w.heap.size, 0, none⟩) 1 1)).run Tryz.prog (w.alloc (.cells #[.int .u8 (c.toNat : Int)] 5)) = .ok (.string ⟨#[c]⟩) (w.alloc (.cells #[.int .u8 (c.toNat : Int)] 5)) :=
  run_string_of_bytes (l := [c]) (fun j hj => by
    simp at hj; subst hj
    rw [cell_of_row _ _ _ _ _ _ (heap_alloc_new w _)]; rfl) _ _ _ _ _ rfl Tryz.underlying203 Tryz.underlying5 Tryz.underlying9

theorem tmod_case (k : Int) : ∃ q : Nat, q = k.natAbs % 10 ∧ (k.tmod 10 = (q : Int) ∨ (k.tmod 10 = -(q : Int) ∧ 0 < q)) := by
  refine ⟨_, rfl, ?_⟩
  have e : ∀ n : Nat, ((n : Int)).tmod 10 = ((n % 10 : Nat) : Int) := fun n => by
    rw [Int.tmod_eq_emod_of_nonneg (by omega)]; omega
  rcases Int.natAbs_eq k with h | h
  · left; rw [h, e]; simp
  · by_cases h0 : k.natAbs % 10 = 0
    · left; rw [h, Int.neg_tmod, e]; simp; omega
    · right; refine ⟨?_, by omega⟩; rw [h, Int.neg_tmod, e]; simp

theorem tdiv_abs (k : Int) : (k.tdiv 10).natAbs = k.natAbs / 10 := Int.natAbs_tdiv k 10

set_option maxHeartbeats 1000000 in
theorem refPrint_any (z : Int) (h1 : -9223372036854775808 ≤ z) (h2 : z ≤ 9223372036854775807) {w : World} : Calls Tryz.prog 336 #[.int .i64 z] w fun e w' => (∃ t : ByteArray, e = .returned (.string t) ∧ t.data.toList = printL z) ∧ Keep (fun _ => False) w w' := by
  by_cases h0 : z = 0
  · subst h0
    go_enter Tryz.func336, Tryz.ntmps336
    go_wp2
    go_ret
    exact ⟨⟨_, rfl, by unfold printL; rw [if_neg (by omega), decL_lt (by decide)]; rfl⟩, Keep.refl _ _⟩
  · have d0 : (z == 0) = false := by simpa using h0
    go_enter Tryz.func336, Tryz.ntmps336
    go_wp2
    go_loopw [3, 4, 5] (fun sv kv dv wr => PrR z w sv kv dv wr) (fun _ kv _ _ => (intOf kv).natAbs)
    case atStart => exact ⟨z, ⟨#[]⟩, rfl, rfl, Nat.le_refl _, h1, h2, by rw [restD_pos (by omega)]; simp, Keep.refl _ _⟩
    case round =>
      obtain ⟨k, t, rfl, rfl, hk, hk1, hk2, ht, hK⟩ := hrel.ex
      have hts : t.size ≤ 19 := by
        have h1 := congrArg List.length ht
        have h2 := decL_len 18 z.natAbs (by omega)
        rw [List.length_append, str_len] at h1
        omega
      have HT := Lib.hid ht
      have HK := Lib.hid hK
      clear ht hK hrel
      by_cases hk0 : k = 0
      · have dk : (k != 0) = false := by simp [hk0]
        have HF : Hid (t.data.toList = decL z.natAbs) := Lib.hid (by have h := HT.out; rw [hk0] at h; simpa [restD_zero] using h)
        clear hk0
        by_cases hn : z < 0
        · have d1 : decide (z < 0) = true := by simpa using hn
          go_wp2
          go_ret
          refine ⟨⟨_, rfl, ?_⟩, HK.out.mono (fun i hi h => by omega)⟩
          unfold printL
          rw [if_pos hn, ← HF.out]
          simp
        · have d1 : decide (z < 0) = false := by simpa using hn
          go_wp2
          go_ret
          refine ⟨⟨_, rfl, ?_⟩, HK.out.mono (fun i hi h => by omega)⟩
          unfold printL
          rw [if_neg (by omega), HF.out]
      · have dk : (k != 0) = true := by simp [hk0]
        obtain ⟨q, hq, hkq⟩ := tmod_case k
        have hq9 : q ≤ 9 := by omega
        have HQ := Lib.hid hq
        have hcv : ∀ w : World, (convert 203 9 (.slice (some ⟨w.heap.size, 0, none⟩) 1 1)).run Tryz.prog (w.alloc (.cells #[.int .u8 (48 + (q : Int))] 5)) = .ok (.string ⟨#[dig q]⟩) (w.alloc (.cells #[.int .u8 (48 + (q : Int))] 5)) := fun w => by
          have h := conv_one w (dig q)
          rwa [show ((dig q).toNat : Int) = 48 + (q : Int) by rw [dig_toNat]; omega] at h
        clear hq
        rcases hkq with e | ⟨e, hq0⟩
        · have dn : decide ((q : Int) < 0) = false := by rw [decide_eq_false_iff_not]; omega
          go_wp2
          go_roundw
          case rel =>
            have ha := tdiv_abs k
            refine ⟨k.tdiv 10, _, rfl, rfl, by omega, by omega, by omega, ?_, HK.out.alloc _⟩
            rw [ha, ← HT.out, restD_step (n := k.natAbs) (by omega), show dig k.natAbs = dig q by rw [HQ.out]; unfold dig; rw [Nat.mod_mod]]
            simp
          case measure => (have ha := tdiv_abs k; simp only [intOf]; omega)
        · have dn : decide (-(q : Int) < 0) = true := by rw [decide_eq_true_eq]; omega
          go_wp2
          go_roundw
          case rel =>
            have ha := tdiv_abs k
            refine ⟨k.tdiv 10, _, rfl, rfl, by omega, by omega, by omega, ?_, HK.out.alloc _⟩
            rw [ha, ← HT.out, restD_step (n := k.natAbs) (by omega), show dig k.natAbs = dig q by rw [HQ.out]; unfold dig; rw [Nat.mod_mod]]
            simp
          case measure => (have ha := tdiv_abs k; simp only [intOf]; omega)
end Go.Proofs.YtheaghgockafmaaGreat.Lin
/- Texts: the reference's Lower. -/
namespace Go.Proofs.YtheaghgockafmaaGreat.Lin
open Go.RowKit Go.Maps Go.Proofs.YtheaghgockafmaaGreat
set_option maxRecDepth 100000

def mixL (l : List UInt8) (k : Nat) : List UInt8 := (l.take k).map lowC ++ l.drop k
theorem mixL_zero (l : List UInt8) : mixL l 0 = l := by simp [mixL]
theorem mixL_len (l : List UInt8) (k : Nat) : (mixL l k).length = l.length := by simp [mixL]; omega
theorem mixL_full (l : List UInt8) : mixL l l.length = lowerL l := by simp [mixL, lowerL]
theorem mixL_get {l : List UInt8} {k : Nat} (h : k < l.length) : (mixL l k)[k]? = some l[k] := by
  unfold mixL
  rw [List.getElem?_append_right (by simp; omega), List.length_map, List.length_take, Nat.min_eq_left (by omega), Nat.sub_self, List.getElem?_drop, Nat.add_zero, List.getElem?_eq_getElem h]
theorem mixL_next {l : List UInt8} {k : Nat} (h : k < l.length) : mixL l (k + 1) = (mixL l k).set k (lowC l[k]) := by
  unfold mixL
  rw [List.set_append_right k (lowC l[k]) (by simp; omega), List.length_map, List.length_take, Nat.min_eq_left (by omega), Nat.sub_self, List.drop_eq_getElem_cons h, List.set_cons_zero, List.take_succ_eq_append_getElem h, List.map_append, List.append_assoc]
  rfl
theorem bcells_set (l : List UInt8) (k : Nat) (c : UInt8) : bcells (l.set k c) = (bcells l).set k (.int .u8 (c.toNat : Int)) := by simp [bcells, List.map_set]
theorem bcells_get {l : List UInt8} {k : Nat} {c : UInt8} (h : l[k]? = some c) : (bcells l)[k]? = some (.int .u8 (c.toNat : Int)) := by simp [bcells, h]

theorem set_same {α : Type} {l : List α} {k : Nat} {c : α} (h : l[k]? = some c) : l.set k c = l := by
  apply List.ext_getElem?
  intro j
  rw [List.getElem?_set]
  by_cases e : k = j
  · subst e; rw [if_pos rfl, h]; obtain ⟨h1, _⟩ := List.getElem?_eq_some_iff.1 h; rw [if_pos h1]
  · rw [if_neg e]
theorem lowC_up {c : UInt8} (h1 : 65 ≤ c.toNat) (h2 : c.toNat ≤ 90) : ((lowC c).toNat : Int) = (c.toNat : Int) + 32 := by
  unfold lowC
  rw [if_pos ⟨h1, h2⟩, UInt8.toNat_add, show (32 : UInt8).toNat = 32 from rfl]
  omega
theorem lowC_no {c : UInt8} (h : ¬ (65 ≤ c.toNat ∧ c.toNat ≤ 90)) : lowC c = c := by unfold lowC; rw [if_neg h]

theorem run_bytes_row1 {P : Program} (w : World) (src dst e : TypeId) (s : ByteArray) (hs : P.underlying src = some .string) (hd : P.underlying dst = some (.slice e)) (he : P.underlying e = some (.int .u8)) (hm : s.size ≤ maxLen) :
    ∃ cap w', (convert src dst (.string s)).run P w = .ok (.slice (some ⟨w.heap.size, 0, none⟩) s.size cap) w' ∧ Row w' e 1 (.slice (some ⟨w.heap.size, 0, none⟩) s.size cap) s.size (bcells s.data.toList) ∧ Keep (fun _ => False) w w' ∧
      w'.heap.size = w.heap.size + 1 := by
  refine ⟨_, _, run_bytes_of_string w src dst e s hs hd he, ⟨by rw [bcells_length, str_len, Nat.mul_one], .inr ⟨w.heap.size, 0, _, _, _, _, rfl, heap_alloc_new w.drew _, grownCap_ge w s.size 0 e, grownCap_le_maxLen w s.size 0 e hm, ?_, .inr (.inl ?_), ?_⟩⟩, ((Keep.refl _ w).drew).alloc _, by simp⟩
  · have := grownCap_ge w s.size 0 e
    simp only [bytesRow, Array.size_append, Array.size_map, Array.size_replicate, Nat.zero_add, Nat.mul_one]
    have h2 : s.data.size = s.size := rfl
    omega
  · have := grownCap_ge w s.size 0 e
    simp only [bytesRow, Array.size_append, Array.size_map, Array.size_replicate, Nat.zero_add, Nat.mul_one]
    have h2 : s.data.size = s.size := rfl
    omega
  · have h2 : (bcells s.data.toList).length = s.size := by rw [bcells_length]; rfl
    simp only [bytesRow, Array.toList_append, Array.toList_map, List.drop_zero, Nat.mul_one]
    exact List.take_left' h2

theorem row_str {P : Program} {w : World} {src dst e : TypeId} {g cap n : Nat} {l : List UInt8} (h : Row w e 1 (.slice (some ⟨g, 0, none⟩) n cap) n (bcells l))
    (hs : P.underlying src = some (.slice e)) (he : P.underlying e = some (.int .u8)) (hd : P.underlying dst = some .string) : (convert src dst (.slice (some ⟨g, 0, none⟩) n cap)).run P w = .ok (.string ⟨l.toArray⟩) w :=
  run_string_of_bytes (l := l) (fun j hj => by
    have hl : l.length = n := by have := h.1; rw [bcells_length] at this; omega
    rw [h.cellAt j (by omega), bcells_get (List.getElem?_eq_getElem hj)]) _ _ _ _ _ (by have := h.1; rw [bcells_length] at this; omega) hs he hd

structure LowR (s : ByteArray) (w0 : World) (g cap : Nat) (iv : Value) (wr : World) : Prop where
  ex : ∃ k : Nat, iv = .int .i64 (k : Int) ∧ k ≤ s.size ∧ Row wr 5 1 (.slice (some ⟨g, 0, none⟩) s.size cap) s.size (bcells (mixL s.data.toList k)) ∧ Keep (fun x => w0.heap.size ≤ x) w0 wr

set_option maxHeartbeats 1000000 in
theorem refLower_any (s : ByteArray) (hs : s.size ≤ 1000000) {w : World} : Calls Tryz.prog 248 #[.string s] w fun e w' => e = .returned (.string ⟨(lowerL s.data.toList).toArray⟩) ∧ Keep (fun _ => False) w w' := by
  obtain ⟨cap, w1, hr, hrow, hk, _⟩ := run_bytes_row1 (P := Tryz.prog) w 9 203 5 s Tryz.underlying9 Tryz.underlying203 Tryz.underlying5 (by unfold maxLen; omega)
  have HROW := Lib.hid hrow
  have HK := Lib.hid hk
  clear hrow hk
  obtain ⟨g, hg⟩ : ∃ g, g = w.heap.size := ⟨_, rfl⟩
  have HG := Lib.hid hg
  rw [← hg] at hr HROW
  clear hg
  go_enter Tryz.func248, Tryz.ntmps248
  go_wp2
  go_loopw [4] (fun iv wr => LowR s w g cap iv wr) (fun iv _ => s.size - (intOf iv).toNat)
  case atStart => exact ⟨0, rfl, by omega, by rw [mixL_zero]; exact HROW.out, HK.out.mono (fun i hi h => h.elim)⟩
  case round =>
    obtain ⟨k, rfl, hk, hrow2, hK2⟩ := hrel.ex
    have HR2 := Lib.hid hrow2
    have HK2 := Lib.hid hK2
    clear hrow2 hK2 hrel
    by_cases hlt : k < s.size
    · obtain ⟨c, hc⟩ : ∃ c, c = s.data.toList[k]'(by rw [str_len]; exact hlt) := ⟨_, rfl⟩
      have hcell : wr.cell? ⟨g, k, none⟩ = some (.int .u8 (c.toNat : Int)) := by
        have h := HR2.out.cellAt k (by omega)
        rw [Nat.zero_add, bcells_get (c := c) (by rw [hc]; exact mixL_get (by rw [str_len]; exact hlt))] at h
        exact h
      have hfz : wr.frozen? ⟨g, k, none⟩ = false := by
        obtain ⟨_, _, hv, h1, _⟩ := HR2.out.slice
        simp only [Value.slice.injEq] at hv
        obtain ⟨_, _, rfl⟩ := hv
        have := (HR2.out.there k (by omega)).2
        rwa [Nat.zero_add] at this
      have HC := Lib.hid hc
      clear hc
      by_cases hup : 65 ≤ c.toNat ∧ c.toNat ≤ 90
      · have g1 : decide (65 ≤ (c.toNat : Int)) = true := by rw [decide_eq_true_eq]; omega
        have g2 : decide ((c.toNat : Int) ≤ 90) = true := by rw [decide_eq_true_eq]; omega
        go_wp2
        go_roundw
        case rel =>
          refine ⟨k + 1, by go_num, by omega, ?_, HK2.out.setCell _ _ (.inr (by show w.heap.size ≤ g; have := HG.out; omega))⟩
          have h := HR2.out.stored k (.int .u8 ((lowC c).toNat : Int))
          rw [← bcells_set, HC.out, ← mixL_next (by rw [str_len]; exact hlt), ← HC.out, lowC_up hup.1 hup.2, Nat.zero_add] at h
          exact h
        case measure => simp [intOf]; omega
      · have HLC : Hid (Row wr 5 1 (.slice (some ⟨g, 0, none⟩) s.size cap) s.size (bcells (mixL s.data.toList (k + 1)))) := Lib.hid (by
          rw [mixL_next (by rw [str_len]; exact hlt), ← HC.out, lowC_no hup, HC.out]
          rw [set_same (mixL_get (by rw [str_len]; exact hlt))]
          exact HR2.out)
        by_cases h1 : 65 ≤ c.toNat
        · have g1 : decide (65 ≤ (c.toNat : Int)) = true := by rw [decide_eq_true_eq]; omega
          have g2 : decide ((c.toNat : Int) ≤ 90) = false := by rw [decide_eq_false_iff_not]; omega
          go_wp2
          go_roundw
          case rel => exact ⟨k + 1, by go_num, by omega, HLC.out, HK2.out⟩
          case measure => simp [intOf]; omega
        · have g1 : decide (65 ≤ (c.toNat : Int)) = false := by rw [decide_eq_false_iff_not]; omega
          go_wp2
          go_roundw
          case rel => exact ⟨k + 1, by go_num, by omega, HLC.out, HK2.out⟩
          case measure => simp [intOf]; omega
    · have hd : decide (k < s.size) = false := by rw [decide_eq_false_iff_not]; omega
      have hcv := row_str (P := Tryz.prog) HR2.out Tryz.underlying203 Tryz.underlying5 Tryz.underlying9
      rw [show k = s.data.toList.length by rw [str_len]; omega, mixL_full] at hcv
      go_wp2
      go_ret
      exact ⟨rfl, HK2.out.mono (fun i hi h => by omega)⟩
end Go.Proofs.YtheaghgockafmaaGreat.Lin
/- Texts: the reference's Words. -/
namespace Go.Proofs.YtheaghgockafmaaGreat.Lin
open Go.RowKit Go.Maps Go.Proofs.YtheaghgockafmaaGreat
set_option maxRecDepth 100000

def scells (L : List (List UInt8)) : List Value := L.map fun x => Value.string ⟨x.toArray⟩
theorem scells_length (L : List (List UInt8)) : (scells L).length = L.length := by simp [scells]
theorem scells_get {L : List (List UInt8)} {k : Nat} (hk : k < L.length) : (scells L)[k]? = some (.string ⟨L[k].toArray⟩) := by simp [scells, hk]
theorem scells_append (L M : List (List UInt8)) : scells (L ++ M) = scells L ++ scells M := by simp [scells]
theorem str_eta (s : ByteArray) : (⟨s.data.toList.toArray⟩ : ByteArray) = s := by cases s; rfl

theorem Tryz.infoS : (Tryz.prog.info? 9).map (fun i => (i.zero, i.size, i.bytes)) = some (some (.string ⟨#[]⟩), 1, 16) := by kernel_rfl

/-- A new list of texts is answered. -/
def AnsL (L : List (List UInt8)) (w : World) (e : Ending) (w' : World) : Prop :=
  ∃ v, e = .returned v ∧ Row w' 9 1 v L.length (scells L) ∧ (∀ b, v.ownBlock = some b → w.heap.size ≤ b) ∧ Keep (fun _ => False) w w'

/-- Where words stand: from is -1 (none stands), or where one begins. -/
structure WoR (p : List UInt8) (w0 : World) (lv fv iv : Value) (wr : World) : Prop where
  ex : ∃ (k : Nat) (done : List (List UInt8)), iv = .int .i64 (k : Int) ∧ k ≤ p.length + 1 ∧ Row wr 9 1 lv done.length (scells done) ∧ (∀ b, lv.ownBlock = some b → w0.heap.size ≤ b) ∧ done.length ≤ k ∧ Keep (fun x => w0.heap.size ≤ x) w0 wr ∧
    ((k = p.length + 1 ∧ wordsL p = done ∧ fv = .int .i64 (-1)) ∨ (k ≤ p.length ∧ fv = .int .i64 (-1) ∧ wordsL p = done ++ wordsGo [] (p.drop k)) ∨
     (k ≤ p.length ∧ ∃ f : Nat, fv = .int .i64 (f : Int) ∧ f < k ∧ wordsL p = done ++ wordsGo ((p.drop f).take (k - f)) (p.drop k)))

theorem take_more {p : List UInt8} {f k : Nat} (hf : f ≤ k) (hk : k < p.length) : (p.drop f).take (k - f) ++ [p[k]] = (p.drop f).take (k + 1 - f) := by
  rw [show k + 1 - f = (k - f) + 1 by omega, List.take_succ_eq_append_getElem (by simp; omega)]
  congr 2
  rw [List.getElem_drop]
  congr 1; omega
theorem take_ne {p : List UInt8} {f k : Nat} (hf : f < k) (hk : k ≤ p.length) : (p.drop f).take (k - f) ≠ [] := by
  intro e
  have := congrArg List.length e
  simp at this
  omega

theorem blank_cases (c : UInt8) : (((c.toNat : Int) == 32) = true ∧ isBlank c = true) ∨ (((c.toNat : Int) == 32) = false ∧ ((c.toNat : Int) == 9) = true ∧ isBlank c = true) ∨ (((c.toNat : Int) == 32) = false ∧ ((c.toNat : Int) == 9) = false ∧ isBlank c = false) := by
  have h : ∀ k : UInt8, ((c.toNat : Int) == (k.toNat : Int)) = (c == k) := fun k => by
    rw [Bool.eq_iff_iff]
    simp only [beq_iff_eq]
    exact ⟨fun e => UInt8.toNat_inj.1 (by omega), fun e => by rw [e]⟩
  have h1 := h 32
  have h2 := h 9
  rw [show ((32 : UInt8).toNat : Int) = 32 from rfl] at h1
  rw [show ((9 : UInt8).toNat : Int) = 9 from rfl] at h2
  rw [h1, h2]
  unfold isBlank
  cases c == 32 <;> cases c == 9 <;> simp

set_option maxHeartbeats 2000000 in
theorem refWords_any (s : ByteArray) (hsz : s.size ≤ 1000000) {w : World} : Calls Tryz.prog 48 #[.string s] w (AnsL (wordsL s.data.toList) w) := by
  obtain ⟨i0, hi0, hz0, hz1, hz2⟩ := info_parts Tryz.infoS
  obtain ⟨p, hp⟩ : ∃ p, p = s.data.toList := ⟨_, rfl⟩
  have hpl : p.length = s.size := by rw [hp]; rfl
  rw [← hp]
  have HP := Lib.hid hp; have HPL := Lib.hid hpl
  clear hp hpl
  go_enter Tryz.func48, Tryz.ntmps48
  go_wp2
  go_loopw [3, 4, 5, 6] (fun lv fv iv _ wr => WoR p w lv fv iv wr) (fun _ _ iv _ _ => s.size + 1 - (intOf iv).toNat)
  case atStart => exact ⟨0, [], rfl, by omega, Row.nil _ _ _, fun b hb => by simp [Value.ownBlock] at hb, by simp, Keep.refl _ _, .inr (.inl ⟨by omega, rfl, rfl⟩)⟩
  case round =>
    obtain ⟨k, done, rfl, hkn, hrow, hown, hdk, hK, hmain⟩ := hrel.ex
    have HROW := Lib.hid hrow; have HOWN := Lib.hid hown; have HK := Lib.hid hK
    have hpl := HPL.out
    clear hrow hown hK hrel
    obtain ⟨va, vc, rfl, hvc1, hvc2⟩ := HROW.out.slice
    rcases hmain with ⟨hk, hw, rfl⟩ | ⟨hk, rfl, hw⟩ | ⟨hk, f, rfl, hf, hw⟩
    · have HW := Lib.hid hw
      have hd1 : decide (k ≤ s.size) = false := by rw [decide_eq_false_iff_not]; omega
      clear hw
      go_wp2
      go_ret
      exact ⟨_, rfl, by rw [HW.out]; exact HROW.out, HOWN.out, HK.out.mono (fun i hi h => by omega)⟩
    · have HW := Lib.hid hw
      clear hw
      have hd1 : decide (k ≤ s.size) = true := by rw [decide_eq_true_eq]; omega
      by_cases hke : k = s.size
      · have q1 : (k == s.size) = true := beq_iff_eq.2 hke
        have q2 : ((k : Int) == (s.size : Int)) = true := by rw [beq_iff_eq]; omega
        have HKE := Lib.hid hke
        clear hke
        go_wp2
        go_roundw
        case rel =>
          refine ⟨k + 1, done, by go_num, by omega, HROW.out, HOWN.out, by omega, HK.out, .inl ⟨by have := HKE.out; omega, ?_, rfl⟩⟩
          rw [HW.out, List.drop_eq_nil_of_le (by have := HKE.out; omega)]; simp [wordsGo_end]
        case measure => simp [intOf]; omega
      · have hlt : k < s.size := by omega
        have q1 : (k == s.size) = false := by rw [beq_eq_false_iff_ne]; omega
        have q2 : ((k : Int) == (s.size : Int)) = false := by rw [beq_eq_false_iff_ne]; omega
        have HPK : Hid (p.drop k = s[k] :: p.drop (k + 1)) := Lib.hid (by
          have hp := HP.out
          subst hp
          exact List.drop_eq_getElem_cons (show k < s.data.toList.length from hlt))
        clear hke
        rcases blank_cases s[k] with ⟨b1, hb⟩ | ⟨b1, b2, hb⟩ | ⟨b1, b2, hb⟩
        · have HB := Lib.hid hb
          clear hb
          go_wp2
          go_roundw
          case rel =>
            refine ⟨k + 1, done, by go_num, by omega, HROW.out, HOWN.out, by omega, HK.out, .inr (.inl ⟨by omega, rfl, ?_⟩)⟩
            rw [HW.out, HPK.out, wordsGo_blank HB.out]; simp
          case measure => simp [intOf]; omega
        · have HB := Lib.hid hb
          clear hb
          go_wp2
          go_roundw
          case rel =>
            refine ⟨k + 1, done, by go_num, by omega, HROW.out, HOWN.out, by omega, HK.out, .inr (.inl ⟨by omega, rfl, ?_⟩)⟩
            rw [HW.out, HPK.out, wordsGo_blank HB.out]; simp
          case measure => simp [intOf]; omega
        · have HB := Lib.hid hb
          clear hb
          go_wp2
          go_roundw
          case rel =>
            refine ⟨k + 1, done, by go_num, by omega, HROW.out, HOWN.out, by omega, HK.out, .inr (.inr ⟨by omega, k, rfl, by omega, ?_⟩)⟩
            rw [HW.out, HPK.out, wordsGo_other HB.out]; simp
          case measure => simp [intOf]; omega
    · have HW := Lib.hid hw
      clear hw
      have hd1 : decide (k ≤ s.size) = true := by rw [decide_eq_true_eq]; omega
      have hfn : f ≤ s.size := by omega
      have hex : (s.extract f k).data.toList = (p.drop f).take (k - f) := by rw [HP.out]; exact Lib.extract_data s f k
      have HEX := Lib.hid hex
      clear hex
      have HAPP := Lib.hid (fun (v : Value) (w2 : World) (hr2 : Row w2 9 1 v (done.length + 1) (scells done ++ #[Value.string (s.extract f k)].toList)) => show Row w2 9 1 v (done ++ [(p.drop f).take (k - f)]).length (scells (done ++ [(p.drop f).take (k - f)])) by
        have e : scells done ++ #[Value.string (s.extract f k)].toList = scells (done ++ [(p.drop f).take (k - f)]) := by
          rw [scells_append]
          congr 1
          show [_] = [Value.string ⟨((p.drop f).take (k - f)).toArray⟩]
          rw [← HEX.out, str_eta]
        rw [e] at hr2
        rw [List.length_append]; exact hr2)
      have hkl : done.length + 1 ≤ 1000002 := by omega
      have HFIN : Hid (∀ (r : List (List UInt8)), wordsGo ((p.drop f).take (k - f)) (p.drop k) = (p.drop f).take (k - f) :: r → wordsL p = (done ++ [(p.drop f).take (k - f)]) ++ r) := Lib.hid (fun r h => by rw [HW.out, h]; simp)
      by_cases hke : k = s.size
      · have q1 : (k == s.size) = true := beq_iff_eq.2 hke
        have q2 : ((k : Int) == (s.size : Int)) = true := by rw [beq_iff_eq]; omega
        have HKE := Lib.hid hke
        clear hke
        go_wp2_with (at_builtin; go_loud (refine wpList_append_row _ rfl (.tmp 34) (.tmp 39) rfl Tryz.underlying66 hi0 hz0 hz1 hz2 rfl rfl (HROW.out.alloc _) rfl (Src.lit Tryz.underlying66 #[.string (s.extract f k)] _ 1 1 rfl rfl (by simp [Value.oneCell'])) (by unfold maxLen; omega) (by omega) ?_))
        intro v7 w2 hr2 hk2 hb2 _
        have HR2 := Lib.hid (HAPP.out v7 w2 hr2)
        have HOW2 : Hid (∀ b, v7.ownBlock = some b → w.heap.size ≤ b) := Lib.hid (fun b hb => by
          have hks := HK.out.size
          rcases hb2 b hb with h | h
          · exact HOWN.out b h
          · have h1 := h.1; first | omega | (simp at h1; omega))
        have HK2 : Hid (Keep (fun x => w.heap.size ≤ x) w w2) := Lib.hid ((HK.out.alloc _).trans hk2 (fun b hb => .inl (HOWN.out b hb)))
        clear hr2 hk2 hb2
        go_wp2
        go_roundw
        case rel =>
          refine ⟨k + 1, done ++ [(p.drop f).take (k - f)], by go_num, by omega, HR2.out, HOW2.out, by simp; omega, HK2.out, .inl ⟨by have := HKE.out; omega, ?_, rfl⟩⟩
          rw [HFIN.out [] (by rw [List.drop_eq_nil_of_le (show p.length ≤ k by have := HKE.out; omega), wordsGo_end, if_neg (take_ne hf hk)]), List.append_nil]
        case measure => simp [intOf]; omega
      · have hlt : k < s.size := by omega
        have q1 : (k == s.size) = false := by rw [beq_eq_false_iff_ne]; omega
        have q2 : ((k : Int) == (s.size : Int)) = false := by rw [beq_eq_false_iff_ne]; omega
        have HPK : Hid (∃ h : k < p.length, p[k] = s[k] ∧ p.drop k = s[k] :: p.drop (k + 1)) := Lib.hid (by
          have hp := HP.out
          subst hp
          exact ⟨hlt, rfl, List.drop_eq_getElem_cons (show k < s.data.toList.length from hlt)⟩)
        clear hke
        rcases blank_cases s[k] with ⟨b1, hb⟩ | ⟨b1, b2, hb⟩ | ⟨b1, b2, hb⟩
        · have HB := Lib.hid hb
          clear hb
          go_wp2_with (at_builtin; go_loud (refine wpList_append_row _ rfl (.tmp 34) (.tmp 39) rfl Tryz.underlying66 hi0 hz0 hz1 hz2 rfl rfl (HROW.out.alloc _) rfl (Src.lit Tryz.underlying66 #[.string (s.extract f k)] _ 1 1 rfl rfl (by simp [Value.oneCell'])) (by unfold maxLen; omega) (by omega) ?_))
          intro v7 w2 hr2 hk2 hb2 _
          have HR2 := Lib.hid (HAPP.out v7 w2 hr2)
          have HOW2 : Hid (∀ b, v7.ownBlock = some b → w.heap.size ≤ b) := Lib.hid (fun b hb => by
            have hks := HK.out.size
            rcases hb2 b hb with h | h
            · exact HOWN.out b h
            · have h1 := h.1; first | omega | (simp at h1; omega))
          have HK2 : Hid (Keep (fun x => w.heap.size ≤ x) w w2) := Lib.hid ((HK.out.alloc _).trans hk2 (fun b hb => .inl (HOWN.out b hb)))
          clear hr2 hk2 hb2
          go_wp2
          go_roundw
          case rel =>
            refine ⟨k + 1, done ++ [(p.drop f).take (k - f)], by go_num, by omega, HR2.out, HOW2.out, by simp; omega, HK2.out, .inr (.inl ⟨by omega, rfl, ?_⟩)⟩
            obtain ⟨h1, h2, h3⟩ := HPK.out
            exact HFIN.out _ (by rw [h3, wordsGo_blank HB.out, if_neg (take_ne hf hk)]; rfl)
          case measure => simp [intOf]; omega
        · have HB := Lib.hid hb
          clear hb
          go_wp2_with (at_builtin; go_loud (refine wpList_append_row _ rfl (.tmp 34) (.tmp 39) rfl Tryz.underlying66 hi0 hz0 hz1 hz2 rfl rfl (HROW.out.alloc _) rfl (Src.lit Tryz.underlying66 #[.string (s.extract f k)] _ 1 1 rfl rfl (by simp [Value.oneCell'])) (by unfold maxLen; omega) (by omega) ?_))
          intro v7 w2 hr2 hk2 hb2 _
          have HR2 := Lib.hid (HAPP.out v7 w2 hr2)
          have HOW2 : Hid (∀ b, v7.ownBlock = some b → w.heap.size ≤ b) := Lib.hid (fun b hb => by
            have hks := HK.out.size
            rcases hb2 b hb with h | h
            · exact HOWN.out b h
            · have h1 := h.1; first | omega | (simp at h1; omega))
          have HK2 : Hid (Keep (fun x => w.heap.size ≤ x) w w2) := Lib.hid ((HK.out.alloc _).trans hk2 (fun b hb => .inl (HOWN.out b hb)))
          clear hr2 hk2 hb2
          go_wp2
          go_roundw
          case rel =>
            refine ⟨k + 1, done ++ [(p.drop f).take (k - f)], by go_num, by omega, HR2.out, HOW2.out, by simp; omega, HK2.out, .inr (.inl ⟨by omega, rfl, ?_⟩)⟩
            obtain ⟨h1, h2, h3⟩ := HPK.out
            exact HFIN.out _ (by rw [h3, wordsGo_blank HB.out, if_neg (take_ne hf hk)]; rfl)
          case measure => simp [intOf]; omega
        · have HB := Lib.hid hb
          clear hb
          go_wp2
          go_roundw
          case rel =>
            refine ⟨k + 1, done, by go_num, by omega, HROW.out, HOWN.out, by omega, HK.out, .inr (.inr ⟨by omega, f, rfl, by omega, ?_⟩)⟩
            obtain ⟨h1, h2, h3⟩ := HPK.out
            rw [HW.out, h3, wordsGo_other HB.out, ← h2, take_more (by omega) h1]
          case measure => simp [intOf]; omega
end Go.Proofs.YtheaghgockafmaaGreat.Lin
/- Texts: the reference's Lines. -/
namespace Go.Proofs.YtheaghgockafmaaGreat.Lin
open Go.RowKit Go.Maps Go.Proofs.YtheaghgockafmaaGreat
set_option maxRecDepth 100000

structure LiR (p : List UInt8) (w0 : World) (lv fv iv : Value) (wr : World) : Prop where
  ex : ∃ (k f : Nat) (done : List (List UInt8)), iv = .int .i64 (k : Int) ∧ fv = .int .i64 (f : Int) ∧ f ≤ k ∧ k ≤ p.length ∧ Row wr 9 1 lv done.length (scells done) ∧ (∀ b, lv.ownBlock = some b → w0.heap.size ≤ b) ∧ done.length ≤ k ∧ Keep (fun x => w0.heap.size ≤ x) w0 wr ∧
    linesL p = done ++ linesGo ((p.drop f).take (k - f)) (p.drop k)

theorem strip_same {cur : List UInt8} (h : cur.getLast? ≠ some 13) : strip cur = cur := by unfold strip; rw [if_neg h]
theorem strip_13 {cur : List UInt8} (h : cur.getLast? = some 13) : strip cur = cur.dropLast := by unfold strip; rw [if_pos h]
theorem take_last {p : List UInt8} {f m : Nat} (hf : f ≤ m) (hm : m < p.length) : ((p.drop f).take (m + 1 - f)).getLast? = some p[m] ∧ ((p.drop f).take (m + 1 - f)).dropLast = (p.drop f).take (m - f) := by
  rw [← take_more hf hm]
  exact ⟨by rw [List.getLast?_append]; simp, by rw [List.dropLast_append_of_ne_nil (by simp)]; simp⟩

theorem byte_is (c k : UInt8) : (((c.toNat : Int) == (k.toNat : Int)) = true ∧ c = k) ∨ (((c.toNat : Int) == (k.toNat : Int)) = false ∧ c ≠ k) := by
  by_cases e : c = k
  · exact .inl ⟨by rw [e]; simp, e⟩
  · exact .inr ⟨by rw [beq_eq_false_iff_ne]; intro h; exact e (UInt8.toNat_inj.1 (by omega)), e⟩

set_option maxHeartbeats 2000000 in
theorem refLines_any (s : ByteArray) (hsz : s.size ≤ 1000000) {w : World} : Calls Tryz.prog 47 #[.string s] w (AnsL (linesL s.data.toList) w) := by
  obtain ⟨i0, hi0, hz0, hz1, hz2⟩ := info_parts Tryz.infoS
  obtain ⟨p, hp⟩ : ∃ p, p = s.data.toList := ⟨_, rfl⟩
  have hpl : p.length = s.size := by rw [hp]; rfl
  rw [← hp]
  have HP := Lib.hid hp; have HPL := Lib.hid hpl
  clear hp hpl
  go_enter Tryz.func47, Tryz.ntmps47
  go_wp2
  go_loopw [3, 4, 5, 6] (fun lv fv iv _ wr => LiR p w lv fv iv wr) (fun _ _ iv _ _ => s.size - (intOf iv).toNat)
  case atStart => exact ⟨0, 0, [], rfl, rfl, by omega, by omega, Row.nil _ _ _, fun b hb => by simp [Value.ownBlock] at hb, by simp, Keep.refl _ _, by simp [linesL]⟩
  case round =>
    obtain ⟨k, f, done, rfl, rfl, hfk, hkn, hrow, hown, hdk, hK, hw⟩ := hrel.ex
    have HROW := Lib.hid hrow; have HOWN := Lib.hid hown; have HK := Lib.hid hK; have HW := Lib.hid hw
    have hpl := HPL.out
    clear hrow hown hK hrel hw
    obtain ⟨va, vc, rfl, hvc1, hvc2⟩ := HROW.out.slice
    have hfn : f ≤ s.size := by omega
    have hkl : done.length + 1 ≤ 1000002 := by omega
    have HAPP := Lib.hid (fun (v : Value) (w2 : World) (x : List UInt8) (t : ByteArray) (ht : t.data.toList = x) (hr2 : Row w2 9 1 v (done.length + 1) (scells done ++ #[Value.string t].toList)) => show Row w2 9 1 v (done ++ [x]).length (scells (done ++ [x])) by
      have e : scells done ++ #[Value.string t].toList = scells (done ++ [x]) := by
        rw [scells_append]
        congr 1
        show [_] = [Value.string ⟨x.toArray⟩]
        rw [← ht, str_eta]
      rw [e] at hr2
      rw [List.length_append]; exact hr2)
    have HOWA := Lib.hid (fun (v : Value) (w2 : World) (hb2 : ∀ b, v.ownBlock = some b → (Value.slice va done.length vc).ownBlock = some b ∨ (wr.heap.size + 1 ≤ b ∧ b < w2.heap.size)) => show ∀ b, v.ownBlock = some b → w.heap.size ≤ b from fun b hb => by
      have hks := HK.out.size
      rcases hb2 b hb with h | h
      · exact HOWN.out b h
      · have h1 := h.1; omega)
    have HKA := Lib.hid (fun (w2 : World) (o : Obj) (hk2 : Keep (fun b => (Value.slice va done.length vc).ownBlock = some b) (wr.alloc o) w2) => show Keep (fun x => w.heap.size ≤ x) w w2 from (HK.out.alloc _).trans hk2 (fun b hb => .inl (HOWN.out b hb)))
    by_cases hlt : k < s.size
    · have hd1 : decide (k < s.size) = true := by simpa using hlt
      have HPK : Hid (∃ h : k < p.length, p[k] = s[k] ∧ p.drop k = s[k] :: p.drop (k + 1)) := Lib.hid (by
        have hp := HP.out
        subst hp
        exact ⟨hlt, rfl, List.drop_eq_getElem_cons (show k < s.data.toList.length from hlt)⟩)
      rcases byte_is s[k] 10 with ⟨c1, hc⟩ | ⟨c1, hc⟩
      · rw [show ((10 : UInt8).toNat : Int) = 10 from rfl] at c1
        have HC := Lib.hid hc
        clear hc
        have HNX : Hid (linesL p = done ++ (strip ((p.drop f).take (k - f)) :: linesGo [] (p.drop (k + 1)))) := Lib.hid (by
          obtain ⟨h1, h2, h3⟩ := HPK.out
          rw [HW.out, h3, HC.out, linesGo_ten])
        by_cases hcr : ∃ m, k = m + 1 ∧ f ≤ m ∧ ∃ h : m < s.size, s[m] = 13
        · obtain ⟨m, hm, hfm, hms, h13⟩ := hcr
          have e1 : (k : Int) - 1 = (m : Int) := by omega
          have d1 : decide ((f : Int) < (k : Int)) = true := by rw [decide_eq_true_eq]; omega
          have d1' : decide (f < k) = true := by rw [decide_eq_true_eq]; omega
          have d2 : ((s[m].toNat : Int) == 13) = true := by rw [h13]; rfl
          have HX : Hid ((s.extract f m).data.toList = strip ((p.drop f).take (k - f))) := Lib.hid (by
            have hp := HP.out
            have hml : m < p.length := by omega
            obtain ⟨t1, t2⟩ := take_last (p := p) hfm hml
            have hpm : p[m] = 13 := by subst hp; exact h13
            rw [Lib.extract_data, ← hp, hm, strip_13 (by rw [t1, hpm]), t2])
          have HM := Lib.hid hm
          clear hm h13
          go_wp2_with (at_builtin; go_loud (refine wpList_append_row _ rfl (.tmp 30) (.tmp 35) rfl Tryz.underlying66 hi0 hz0 hz1 hz2 rfl rfl (HROW.out.alloc _) rfl (Src.lit Tryz.underlying66 #[.string (s.extract f m)] _ 1 1 rfl rfl (by simp [Value.oneCell'])) (by unfold maxLen; omega) (by omega) ?_))
          intro v7 w2 hr2 hk2 hb2 _
          have HR2 := Lib.hid (HAPP.out v7 w2 _ _ HX.out hr2)
          have HOW2 := Lib.hid (HOWA.out v7 w2 hb2)
          have HK2 := Lib.hid (HKA.out w2 _ hk2)
          clear hr2 hk2 hb2
          go_wp2
          go_roundw
          case rel => exact ⟨k + 1, k + 1, _, by go_num, by go_num, by omega, by omega, HR2.out, HOW2.out, by simp; omega, HK2.out, by rw [HNX.out]; simp⟩
          case measure => simp [intOf]; omega
        · have HX : Hid ((s.extract f k).data.toList = strip ((p.drop f).take (k - f))) := Lib.hid (by
            rw [Lib.extract_data, ← HP.out, strip_same]
            intro e
            by_cases hfk2 : f < k
            · obtain ⟨m, rfl⟩ : ∃ m, k = m + 1 := ⟨k - 1, by omega⟩
              have hml : m < p.length := by omega
              rw [(take_last (p := p) (by omega) hml).1] at e
              refine hcr ⟨m, rfl, by omega, by omega, ?_⟩
              have hp := HP.out
              subst hp
              exact Option.some.inj e
            · rw [show k - f = 0 by omega] at e; simp at e)
          by_cases hfk2 : f < k
          · obtain ⟨m, hm⟩ : ∃ m, k = m + 1 := ⟨k - 1, by omega⟩
            have hms : m < s.size := by omega
            have e1 : (k : Int) - 1 = (m : Int) := by omega
            have d1 : decide ((f : Int) < (k : Int)) = true := by rw [decide_eq_true_eq]; omega
            have d1' : decide (f < k) = true := by rw [decide_eq_true_eq]; omega
            have d2 : ((s[m].toNat : Int) == 13) = false := by
              rcases byte_is s[m] 13 with ⟨_, h⟩ | ⟨h, _⟩
              · exact (hcr ⟨m, hm, by omega, hms, h⟩).elim
              · exact h
            have HM := Lib.hid hm
            clear hm hcr
            go_wp2_with (at_builtin; go_loud (refine wpList_append_row _ rfl (.tmp 30) (.tmp 35) rfl Tryz.underlying66 hi0 hz0 hz1 hz2 rfl rfl (HROW.out.alloc _) rfl (Src.lit Tryz.underlying66 #[.string (s.extract f k)] _ 1 1 rfl rfl (by simp [Value.oneCell'])) (by unfold maxLen; omega) (by omega) ?_))
            intro v7 w2 hr2 hk2 hb2 _
            have HR2 := Lib.hid (HAPP.out v7 w2 _ _ HX.out hr2)
            have HOW2 := Lib.hid (HOWA.out v7 w2 hb2)
            have HK2 := Lib.hid (HKA.out w2 _ hk2)
            clear hr2 hk2 hb2
            go_wp2
            go_roundw
            case rel => exact ⟨k + 1, k + 1, _, by go_num, by go_num, by omega, by omega, HR2.out, HOW2.out, by simp; omega, HK2.out, by rw [HNX.out]; simp⟩
            case measure => simp [intOf]; omega
          · have d1 : decide ((f : Int) < (k : Int)) = false := by rw [decide_eq_false_iff_not]; omega
            have d1' : decide (f < k) = false := by rw [decide_eq_false_iff_not]; omega
            clear hcr
            go_wp2_with (at_builtin; go_loud (refine wpList_append_row _ rfl (.tmp 30) (.tmp 35) rfl Tryz.underlying66 hi0 hz0 hz1 hz2 rfl rfl (HROW.out.alloc _) rfl (Src.lit Tryz.underlying66 #[.string (s.extract f k)] _ 1 1 rfl rfl (by simp [Value.oneCell'])) (by unfold maxLen; omega) (by omega) ?_))
            intro v7 w2 hr2 hk2 hb2 _
            have HR2 := Lib.hid (HAPP.out v7 w2 _ _ HX.out hr2)
            have HOW2 := Lib.hid (HOWA.out v7 w2 hb2)
            have HK2 := Lib.hid (HKA.out w2 _ hk2)
            clear hr2 hk2 hb2
            go_wp2
            go_roundw
            case rel => exact ⟨k + 1, k + 1, _, by go_num, by go_num, by omega, by omega, HR2.out, HOW2.out, by simp; omega, HK2.out, by rw [HNX.out]; simp⟩
            case measure => simp [intOf]; omega
      · rw [show ((10 : UInt8).toNat : Int) = 10 from rfl] at c1
        have HC := Lib.hid hc
        clear hc
        go_wp2
        go_roundw
        case rel =>
          refine ⟨k + 1, f, done, by go_num, rfl, by omega, by omega, HROW.out, HOWN.out, by omega, HK.out, ?_⟩
          obtain ⟨h1, h2, h3⟩ := HPK.out
          rw [HW.out, h3, linesGo_other HC.out, ← h2, take_more hfk h1]
        case measure => simp [intOf]; omega
    · have hd1 : decide (k < s.size) = false := by rw [decide_eq_false_iff_not]; omega
      have hk : k = p.length := by omega
      have HKE := Lib.hid hk
      clear hk
      by_cases hfl : f < s.size
      · have d1 : decide (f < s.size) = true := by simpa using hfl
        have d1' : decide ((f : Int) < (s.size : Int)) = true := by rw [decide_eq_true_eq]; omega
        have HX : Hid ((s.extract f s.size).data.toList = (p.drop f).take (k - f)) := Lib.hid (by
          rw [Lib.extract_data, ← HP.out, HKE.out, HPL.out])
        go_wp2_with (at_builtin; go_loud (refine wpList_append_row _ rfl (.tmp 43) (.tmp 47) rfl Tryz.underlying66 hi0 hz0 hz1 hz2 rfl rfl (HROW.out.alloc _) rfl (Src.lit Tryz.underlying66 #[.string (s.extract f s.size)] _ 1 1 rfl rfl (by simp [Value.oneCell'])) (by unfold maxLen; omega) (by omega) ?_))
        intro v7 w2 hr2 hk2 hb2 _
        have HR2 := Lib.hid (HAPP.out v7 w2 _ _ HX.out hr2)
        have HOW2 := Lib.hid (HOWA.out v7 w2 hb2)
        have HK2 := Lib.hid (HKA.out w2 _ hk2)
        clear hr2 hk2 hb2
        go_wp2
        go_ret
        refine ⟨_, rfl, ?_, HOW2.out, HK2.out.mono (fun i hi h => by omega)⟩
        rw [HW.out, show p.drop k = [] from List.drop_eq_nil_of_le (by have := HKE.out; omega), linesGo_end, if_neg (by
          intro e
          have := congrArg List.length e
          have hk := HKE.out
          simp at this
          omega)]
        exact HR2.out
      · have d1 : decide (f < s.size) = false := by rw [decide_eq_false_iff_not]; omega
        have d1' : decide ((f : Int) < (s.size : Int)) = false := by rw [decide_eq_false_iff_not]; omega
        go_wp2
        go_ret
        refine ⟨_, rfl, ?_, HOWN.out, HK.out.mono (fun i hi h => by omega)⟩
        rw [HW.out, HKE.out, List.drop_eq_nil_of_le (Nat.le_refl _), linesGo_end, if_pos (by rw [List.drop_eq_nil_of_le (by omega)]; simp), List.append_nil]
        exact HROW.out
end Go.Proofs.YtheaghgockafmaaGreat.Lin
