/- Files on blocks: turn. -/
import Derived.Test.YtejeadccpigepaaSmall
namespace Go.Proofs.Ytejeadccpigepaa.Ino
open Go.RowKit Go.Maps Go.Proofs.Ytejeadccpigepaa
set_option maxRecDepth 100000

/-- The store when the changes are put, to the numbers of T'. -/
def putAll (S : Sto) (T' : List Nat) : List Chg → Sto
  | [] => S
  | c :: l => putAll (if tg T' c.k = 0 then S else { S with f := S.set (tg T' c.k) (some c.new) }) T' l

theorem putAll_append (S : Sto) (T' : List Nat) (l m : List Chg) : putAll S T' (l ++ m) = putAll (putAll S T' l) T' m := by
  induction l generalizing S with
  | nil => rfl
  | cons c l ih => rw [List.cons_append, putAll, putAll, ih]

theorem putAll_num (S : Sto) (T' : List Nat) (l : List Chg) : (putAll S T' l).c = S.c ∧ (putAll S T' l).most = S.most ∧ (putAll S T' l).nxt = S.nxt := by
  induction l generalizing S with
  | nil => exact ⟨rfl, rfl, rfl⟩
  | cons c l ih =>
    rw [putAll]
    split
    · exact ih S
    · exact ih _

theorem putAll_some (S : Sto) (T' : List Nat) (l : List Chg) (n : Nat) (h : S.f n ≠ none) : (putAll S T' l).f n ≠ none := by
  induction l generalizing S with
  | nil => exact h
  | cons c l ih =>
    rw [putAll]
    split
    · exact ih S h
    · refine ih _ ?_
      unfold Sto.set
      simp only
      split
      · simp
      · exact h

/-- What is put at a slot, of what there is. -/
theorem putk_any {w : World} {F : Nat → Prop} {p s : Nat} {S : Sto} {size : Nat} {T T' : List Nat} (h : IsFile w F p s S size T) (k : Nat) (hk : tg T' k ≠ 0 → S.f (tg T' k) ≠ none) {l : List UInt8} (hl : l.length = 512) :
    Calls Try.prog 55 #[.pointer (some ⟨p, 0, none⟩), .int .u32 ((tg T' k : Nat) : Int), .agg (blkC l)] w fun e w' => e = .returned .nilIface ∧ IsFile w' (grow F w w') p s (if tg T' k = 0 then S else { S with f := S.set (tg T' k) (some l) }) size T ∧ Keep F w w' := by
  by_cases h0 : tg T' k = 0
  · rw [if_pos h0, h0]
    refine (put_zero p l).mono ?_
    rintro e w' ⟨rfl, k1⟩
    have hs := k1.size
    exact ⟨rfl, (h.keep0 k1).wide (fun _ hx => .inl hx) (fun x hx => hx.elim (fun hx => by have := h.lt.1 x hx; omega) (fun hx => hx.2)) (fun hx => hx.elim h.pF (fun hx => by have := h.lt.2; omega)), k1.mono (fun _ _ h => h.elim)⟩
  · rw [if_neg h0]
    obtain ⟨l0, hl0⟩ := Option.ne_none_iff_exists'.1 (hk h0)
    exact put_any h hl0 hl

theorem chgL_at : ∀ {l : List Chg}, (∀ c ∈ l, c.Ok) → ∀ (i : Nat) (hi : i < l.length) (j : Nat), j < 1025 → (chgL l)[i * 1025 + j]? = l[i].cells[j]?
  | c :: l, h, 0, _, j, hj => by
    rw [chgL, List.flatMap_cons, Nat.zero_mul, Nat.zero_add, List.getElem?_append_left (by rw [Chg.cells_length (h c (List.mem_cons_self ..))]; exact hj)]
    rfl
  | c :: l, h, i + 1, hi, j, hj => by
    have hc := Chg.cells_length (h c (List.mem_cons_self ..))
    rw [chgL, List.flatMap_cons, List.getElem?_append_right (by rw [hc]; omega), hc, show (i + 1) * 1025 + j - 1025 = i * 1025 + j by omega]
    exact chgL_at (fun x hx => h x (List.mem_cons_of_mem _ hx)) i (by simpa using hi) j hj

theorem ChgsAt.cell {w : World} {g o n cap : Nat} {l : List Chg} (h : ChgsAt w (.slice (some ⟨g, o, none⟩) n cap) l) (i : Nat) (hi : i < l.length) : w.rangeAt g (o + i * 1025) l[i].cells := fun j v hv => by
  have hn : n = l.length := by
    obtain ⟨a, cp, e, _, _⟩ := h.row.slice
    simp only [Value.slice.injEq] at e
    exact e.2.1
  subst hn
  have hj : j < l[i].cells.length := (List.getElem?_eq_some_iff.1 hv).1
  rw [Chg.cells_length (h.ok _ (List.getElem_mem hi))] at hj
  have hc := h.row.cellAt (i * 1025 + j) (by
    have : (i + 1) * 1025 ≤ l.length * 1025 := Nat.mul_le_mul_right _ hi
    omega)
  rw [Nat.add_assoc, hc, ← hv]
  exact chgL_at h.ok i hi j hj

end Go.Proofs.Ytejeadccpigepaa.Ino
