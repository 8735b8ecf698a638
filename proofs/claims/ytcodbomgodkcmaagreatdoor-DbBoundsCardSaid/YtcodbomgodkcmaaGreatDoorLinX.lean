/- Texts: pieces with their ends, and the lines that they are (no program). -/
import Derived.Test.YtcodbomgodkcmaaGreatDoorLinM
import Derived.Lib.Strings
import Derived.Lib.IndexLaws
namespace Go.Proofs.YtcodbomgodkcmaaGreatDoor.Lin
open Go.Lib

/-- Pieces with their ends, where cur stands already. -/
def rawGo : List UInt8 → List UInt8 → List (List UInt8)
  | cur, [] => if cur = [] then [] else [cur]
  | cur, c :: r => if c = 10 then (cur ++ [10]) :: rawGo [] r else rawGo (cur ++ [c]) r

theorem rawGo_ten {cur r : List UInt8} : rawGo cur (10 :: r) = (cur ++ [10]) :: rawGo [] r := by rw [rawGo, if_pos rfl]
theorem rawGo_other {cur r : List UInt8} {c : UInt8} (h : c ≠ 10) : rawGo cur (c :: r) = rawGo (cur ++ [c]) r := by rw [rawGo, if_neg h]

theorem raw_none : ∀ (r cur : List UInt8), (∀ c ∈ r, c ≠ 10) → rawGo cur r = if cur ++ r = [] then [] else [cur ++ r]
  | [], cur, _ => by simp [rawGo]
  | c :: r, cur, h => by
    rw [rawGo_other (h c (by simp)), raw_none r (cur ++ [c]) (fun x hx => h x (by simp [hx]))]
    simp
theorem raw_some : ∀ (i : Nat) (r cur : List UInt8), r[i]? = some 10 → (∀ k, k < i → r[k]? ≠ some 10) → rawGo cur r = (cur ++ r.take (i + 1)) :: rawGo [] (r.drop (i + 1))
  | 0, [], cur, h, _ => by simp at h
  | 0, c :: r, cur, h, _ => by
    obtain rfl : c = 10 := by simpa using h
    rw [rawGo_ten]; simp
  | i + 1, [], cur, h, _ => by simp at h
  | i + 1, c :: r, cur, h, hn => by
    have hc : c ≠ 10 := fun e => hn 0 (by omega) (by simp [e])
    rw [rawGo_other hc, raw_some i r (cur ++ [c]) (by simpa using h) (fun k hk => by have := hn (k + 1) (by omega); simpa using this)]
    simp

/-- One step of the iterator: the piece, and what is left. -/
theorem raw_step {r : List UInt8} (h : r ≠ []) : (∃ i : Nat, indexByte r 10 = (i : Int) ∧ i < r.length ∧ rawGo [] r = r.take (i + 1) :: rawGo [] (r.drop (i + 1))) ∨ (indexByte r 10 = -1 ∧ rawGo [] r = r :: rawGo [] []) := by
  have hg := indexByte_ge r 10
  by_cases h1 : indexByte r 10 = -1
  · refine .inr ⟨h1, ?_⟩
    rw [raw_none r [] (fun c hc e => by
      obtain ⟨k, hk, rfl⟩ := List.mem_iff_getElem.1 hc
      exact indexByte_none h1 k (by rw [List.getElem?_eq_getElem hk, e]))]
    simp [h, rawGo]
  · obtain ⟨i, hi⟩ : ∃ i : Nat, indexByte r 10 = (i : Int) := ⟨(indexByte r 10).toNat, by omega⟩
    obtain ⟨g1, g2⟩ := indexByte_some hi
    refine .inl ⟨i, hi, (List.getElem?_eq_some_iff.1 g1).1, ?_⟩
    rw [raw_some i r [] g1 g2, List.nil_append]

/-- A piece without its end. -/
def lineF (x : List UInt8) : List UInt8 := if hasSuffix x [10] = true then trimSuffix (trimSuffix x [10]) [13] else x

theorem suffix_one {x : List UInt8} {c : UInt8} : hasSuffix x [c] = true ↔ x.getLast? = some c := by
  unfold hasSuffix
  rw [List.isSuffixOf_iff_suffix]
  constructor
  · rintro ⟨t, rfl⟩; simp
  · intro h
    obtain ⟨t, ht⟩ := List.getLast?_eq_some_iff.1 h
    exact ⟨t, ht.symm⟩
theorem trim_one (x : List UInt8) (c : UInt8) : trimSuffix x [c] = if x.getLast? = some c then x.dropLast else x := by
  unfold trimSuffix
  by_cases h : x.getLast? = some c
  · rw [if_pos (suffix_one.2 h), if_pos h, List.dropLast_eq_take]; rfl
  · rw [if_neg (fun hh => h (suffix_one.1 hh)), if_neg h]

theorem lineF_ten (cur : List UInt8) : lineF (cur ++ [10]) = strip cur := by
  unfold lineF
  rw [if_pos (suffix_one.2 (by simp)), trim_one (cur ++ [10]) 10, if_pos (by simp), List.dropLast_concat, trim_one]
  rfl
theorem lineF_none {cur : List UInt8} (h : ∀ c ∈ cur, c ≠ 10) : lineF cur = cur := by
  unfold lineF
  rw [if_neg]
  intro hh
  have := suffix_one.1 hh
  exact h 10 (List.mem_of_getLast? this) rfl

theorem lines_raw : ∀ (r cur : List UInt8), (∀ c ∈ cur, c ≠ 10) → (rawGo cur r).map lineF = linesGo cur r
  | [], cur, h => by
    rw [rawGo, linesGo_end]
    by_cases e : cur = []
    · rw [if_pos e]; rfl
    · rw [if_neg e, List.map_cons, lineF_none h]; rfl
  | c :: r, cur, h => by
    by_cases e : c = 10
    · subst e
      rw [rawGo_ten, linesGo_ten, List.map_cons, lineF_ten, lines_raw r [] (fun x hx => by simp at hx)]
    · rw [rawGo_other e, linesGo_other e, lines_raw r (cur ++ [c]) (fun x hx => by simp at hx; rcases hx with hx | hx; exact h x hx; rw [hx]; exact e)]

theorem rawGo_len : ∀ (r cur : List UInt8), (rawGo cur r).length ≤ r.length + 1
  | [], cur => by rw [rawGo]; split <;> simp
  | c :: r, cur => by
    by_cases e : c = 10
    · subst e; rw [rawGo_ten]; have := rawGo_len r []; simp; omega
    · rw [rawGo_other e]; have := rawGo_len r (cur ++ [c]); simp; omega
end Go.Proofs.YtcodbomgodkcmaaGreatDoor.Lin
