/- Names and paths as lists of bytes (no program). -/
import Derived.Lib.Split
namespace Go.Proofs.Ytejeadccpigepaa.Dir
open Go

/-- May a byte stand in a name? -/
def letB (c : UInt8) : Bool := (97 ≤ c && c ≤ 122) || (48 ≤ c && c ≤ 57) || c == 46 || c == 45 || c == 95

/-- May an entry have that name? -/
def mayB (l : List UInt8) : Bool := !(l == []) && decide (l.length ≤ 24) && !(l == [46]) && !(l == [46, 46]) && l.all letB

/-- What stands between strokes. -/
def pieces : List UInt8 → List (List UInt8)
  | [] => [[]]
  | c :: r => if c = 47 then [] :: pieces r else
    match pieces r with
    | [] => [[c]]
    | p :: ps => (c :: p) :: ps

/-- A path's names; none: it is no path. -/
def splitP : List UInt8 → Option (List (List UInt8))
  | [] => none
  | c :: r => if c = 47 then (if r = [] then some [] else if (pieces r).all mayB = true ∧ (pieces r).length ≤ 8 then some (pieces r) else none) else none

theorem pieces_ne (s : List UInt8) : pieces s ≠ [] := by
  cases s with
  | nil => simp [pieces]
  | cons c r =>
    unfold pieces
    split
    · simp
    · split <;> simp

theorem pieces_len (s : List UInt8) : (pieces s).length ≤ s.length + 1 := by
  induction s with
  | nil => simp [pieces]
  | cons c r ih =>
    unfold pieces
    split
    · simp; omega
    · split
      · simp
      · rename_i p ps h
        rw [h] at ih
        simp at ih ⊢
        omega

theorem pieces_none (x : List UInt8) (h : ∀ c ∈ x, c ≠ 47) : pieces x = [x] := by
  induction x with
  | nil => rfl
  | cons c r ih =>
    unfold pieces
    rw [if_neg (h c (List.mem_cons_self ..)), ih (fun c hc => h c (List.mem_cons_of_mem _ hc))]

theorem pieces_stroke (x t : List UInt8) (h : ∀ c ∈ x, c ≠ 47) : pieces (x ++ 47 :: t) = x :: pieces t := by
  induction x with
  | nil => simp [pieces]
  | cons c r ih =>
    rw [List.cons_append, pieces, if_neg (h c (List.mem_cons_self ..)), ih (fun c hc => h c (List.mem_cons_of_mem _ hc))]

theorem index_stroke (s : List UInt8) : (Lib.index s [47] = -1 ∧ ∀ c ∈ s, c ≠ 47) ∨ ∃ x t, s = x ++ 47 :: t ∧ (∀ c ∈ x, c ≠ 47) ∧ Lib.index s [47] = (x.length : Int) := by
  induction s with
  | nil => exact .inl ⟨by simp [Lib.index], by simp⟩
  | cons b l ih =>
    by_cases hb : b = 47
    · subst hb
      exact .inr ⟨[], l, rfl, by simp, by rw [Lib.index]; simp [List.isPrefixOf]⟩
    · have hp : ([47] : List UInt8).isPrefixOf (b :: l) = false := by simp [List.isPrefixOf, Ne.symm hb]
      have hix : Lib.index (b :: l) [47] = if Lib.index l [47] == -1 then -1 else Lib.index l [47] + 1 := by rw [Lib.index, hp]; simp
      rcases ih with ⟨h1, h2⟩ | ⟨x, t, rfl, h2, h3⟩
      · refine .inl ⟨by rw [hix, if_pos (beq_iff_eq.2 h1)], fun c hc => ?_⟩
        rcases List.mem_cons.1 hc with rfl | hc
        · exact hb
        · exact h2 c hc
      · refine .inr ⟨b :: x, t, rfl, fun c hc => ?_, ?_⟩
        · rcases List.mem_cons.1 hc with rfl | hc
          · exact hb
          · exact h2 c hc
        · rw [hix, if_neg (fun e => by have := beq_iff_eq.1 e; omega), h3]; simp

theorem splitK_pieces : ∀ (k : Nat) (s : List UInt8), ((pieces s).length ≤ k + 1 → Lib.splitK [47] 0 k s = pieces s) ∧ (k + 1 < (pieces s).length → (Lib.splitK [47] 0 k s).length = k + 1)
  | 0, s => by
    refine ⟨fun h => ?_, fun _ => rfl⟩
    rcases index_stroke s with ⟨_, h2⟩ | ⟨x, t, rfl, h2, _⟩
    · rw [pieces_none s h2]; rfl
    · rw [pieces_stroke x t h2] at h
      have := pieces_ne t
      cases hp : pieces t with
      | nil => exact (this hp).elim
      | cons a b => rw [hp] at h; simp at h
  | k + 1, s => by
    rcases index_stroke s with ⟨h1, h2⟩ | ⟨x, t, rfl, h2, h3⟩
    · rw [pieces_none s h2, Lib.splitK, if_pos (beq_iff_eq.2 h1)]
      exact ⟨fun _ => rfl, fun h => by simp at h⟩
    · have he : Lib.splitK [47] 0 (k + 1) (x ++ 47 :: t) = x :: Lib.splitK [47] 0 k t := by
        rw [Lib.splitK, if_neg (fun e => by have := beq_iff_eq.1 e; omega), h3]
        simp
      rw [he, pieces_stroke x t h2]
      obtain ⟨i1, i2⟩ := splitK_pieces k t
      refine ⟨fun h => ?_, fun h => ?_⟩
      · simp at h; rw [i1 (by omega)]
      · simp at h; simp [i2 (by omega)]

theorem splitN_pieces (s : List UInt8) : ((pieces s).length ≤ 8 ∧ Lib.splitN s [47] 9 = pieces s) ∨ (8 < (pieces s).length ∧ 8 < (Lib.splitN s [47] 9).length) := by
  unfold Lib.splitN
  have hl := pieces_len s
  obtain ⟨k, hk⟩ : ∃ k, k = min 9 (s.length + 1) - 1 := ⟨_, rfl⟩
  rw [← hk]
  obtain ⟨h1, h2⟩ := splitK_pieces k s
  by_cases h : (pieces s).length ≤ 8
  · exact .inl ⟨h, h1 (by omega)⟩
  · have h8 : k = 8 := by omega
    subst h8
    by_cases h9 : (pieces s).length ≤ 9
    · exact .inr ⟨by omega, by rw [h1 h9]; omega⟩
    · exact .inr ⟨by omega, by rw [h2 (by omega)]; omega⟩

end Go.Proofs.Ytejeadccpigepaa.Dir
