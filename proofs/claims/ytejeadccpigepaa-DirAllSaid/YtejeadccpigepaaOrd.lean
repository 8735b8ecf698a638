/- Lists that rise, and what a stable sort's steps do to them (no program). -/
namespace Go.Proofs.Ytejeadccpigepaa.Dir
section
variable {α : Type} (lt : α → α → Bool)

/-- A weak order: what is not after. -/
structure Wk : Prop where
  tot : ∀ a b, lt a b = false ∨ lt b a = false
  tr : ∀ a b c, lt b a = false → lt c b = false → lt c a = false

/-- A list that does not fall. -/
def Ris (l : List α) : Prop := l.Pairwise fun a b => lt b a = false

variable {lt}

theorem Wk.of_lt (h : Wk lt) {a b : α} (hl : lt a b = true) : lt b a = false := by
  rcases h.tot a b with e | e
  · rw [hl] at e; cases e
  · exact e

theorem ris_insert (h : Wk lt) {A B : List α} {x : α} (hr : Ris lt (A ++ B)) (hb : ∀ y ∈ B, lt y x = false) (ha : ∀ y, A.getLast? = some y → lt x y = false) : Ris lt (A ++ x :: B) := by
  unfold Ris at *
  rw [List.pairwise_append] at hr ⊢
  obtain ⟨h1, h2, h3⟩ := hr
  have hal : ∀ y ∈ A, lt x y = false := by
    intro y hy
    obtain ⟨A', z, rfl⟩ : ∃ A' z, A = A' ++ [z] := by
      rcases List.eq_nil_or_concat A with e | ⟨L, b, e⟩
      · subst e; cases hy
      · exact ⟨L, b, by simpa using e⟩
    have hz := ha z (by simp)
    rcases List.mem_append.1 hy with hy | hy
    · have := (List.pairwise_append.1 h1).2.2 y hy z (by simp)
      exact h.tr _ _ _ this hz
    · simp at hy; subst hy; exact hz
  refine ⟨h1, List.pairwise_cons.2 ⟨hb, h2⟩, fun a ha' b hb' => ?_⟩
  rcases List.mem_cons.1 hb' with rfl | hb'
  · exact hal a ha'
  · exact h3 a ha' b hb'

theorem ris_append {A B : List α} : Ris lt (A ++ B) ↔ Ris lt A ∧ Ris lt B ∧ ∀ a ∈ A, ∀ b ∈ B, lt b a = false := List.pairwise_append

/-- Two ends that meet: what a merge's cut leaves is in order across. -/
theorem cross (h : Wk lt) {X1 X2 Y1 Y2 : List α} (hx : Ris lt (X1 ++ X2)) (hy : Ris lt (Y1 ++ Y2))
    (h1 : ∀ x y, X1.getLast? = some x → Y2.head? = some y → lt y x = false) (h2 : ∀ x y, X2.head? = some x → Y1.getLast? = some y → lt x y = false) :
    ∀ a ∈ X1 ++ Y1, ∀ b ∈ X2 ++ Y2, lt b a = false := by
  obtain ⟨x1, x2, x3⟩ := ris_append.1 hx
  obtain ⟨y1, y2, y3⟩ := ris_append.1 hy
  have last : ∀ {A : List α}, Ris lt A → ∀ z, A.getLast? = some z → ∀ a ∈ A, lt z a = false := by
    intro A hA z hz a ha
    obtain ⟨A', rfl⟩ : ∃ A', A = A' ++ [z] := by
      rcases List.eq_nil_or_concat A with e | ⟨L, b, e⟩
      · subst e; cases ha
      · rw [e] at hz; simp at hz; subst hz; exact ⟨L, by simpa using e⟩
    rcases List.mem_append.1 ha with ha | ha
    · exact (ris_append.1 hA).2.2 a ha z (by simp)
    · simp at ha; subst ha
      rcases h.tot a a with e | e <;> exact e
  have head : ∀ {A : List α}, Ris lt A → ∀ z, A.head? = some z → ∀ a ∈ A, lt a z = false := by
    intro A hA z hz a ha
    cases A with
    | nil => cases ha
    | cons b r =>
      simp at hz; subst hz
      rcases List.mem_cons.1 ha with rfl | ha
      · rcases h.tot a a with e | e <;> exact e
      · exact (List.pairwise_cons.1 hA).1 a ha
  intro a ha b hb
  rcases List.mem_append.1 ha with ha | ha <;> rcases List.mem_append.1 hb with hb | hb
  · exact x3 a ha b hb
  · obtain ⟨x, hxl⟩ : ∃ x, X1.getLast? = some x := by cases e : X1.getLast? with | none => rw [List.getLast?_eq_none_iff] at e; subst e; cases ha | some v => exact ⟨v, rfl⟩
    obtain ⟨y, hyl⟩ : ∃ y, Y2.head? = some y := by cases Y2 with | nil => cases hb | cons v _ => exact ⟨v, rfl⟩
    exact h.tr _ _ _ (h.tr _ _ _ (last x1 x hxl a ha) (h1 x y hxl hyl)) (head y2 y hyl b hb)
  · obtain ⟨x, hxl⟩ : ∃ x, X2.head? = some x := by cases X2 with | nil => cases hb | cons v _ => exact ⟨v, rfl⟩
    obtain ⟨y, hyl⟩ : ∃ y, Y1.getLast? = some y := by cases e : Y1.getLast? with | none => rw [List.getLast?_eq_none_iff] at e; subst e; cases ha | some v => exact ⟨v, rfl⟩
    exact h.tr _ _ _ (h.tr _ _ _ (last y1 y hyl a ha) (h2 x y hxl hyl)) (head x2 x hxl b hb)
  · exact y3 a ha b hb

end
end Go.Proofs.Ytejeadccpigepaa.Dir
