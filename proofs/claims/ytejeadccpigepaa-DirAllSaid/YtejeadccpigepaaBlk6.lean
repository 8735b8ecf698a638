/- A list in blocks, each of which rises; blocks that are merged in twos. No program here. -/
import Derived.Test.YtejeadccpigepaaCmp6
namespace Go.Proofs.Ytejeadccpigepaa.Dir
open Go.RowKit Go.Maps Go.Proofs.Ytejeadccpigepaa Go.Proofs.Ytejeadccpigepaa.Ino
set_option maxRecDepth 100000

def blk (D : List Ent) (a s : Nat) : List Ent := (D.drop a).take s

theorem blk_lo (P Z : List Ent) (a s : Nat) (h : a + s ≤ P.length) : blk (P ++ Z) a s = blk P a s := by
  unfold blk
  rw [List.drop_append_of_le_length (by omega), List.take_append_of_le_length (by rw [List.length_drop]; omega)]

theorem blk_mid (P X R : List Ent) (a s : Nat) (ha : P.length = a) (hs : X.length = s ∨ (X.length ≤ s ∧ R = [])) : blk (P ++ X ++ R) a s = X := by
  unfold blk
  rw [List.append_assoc, ← ha, List.drop_left]
  rcases hs with hs | ⟨hs, rfl⟩
  · rw [← hs, List.take_left]
  · rw [List.append_nil, List.take_of_length_le hs]

theorem blk_hi (P X R : List Ent) (a s : Nat) (h : P.length + X.length ≤ a) : blk (P ++ X ++ R) a s = blk R (a - (P.length + X.length)) s := by
  unfold blk
  rw [List.drop_append, List.drop_eq_nil_of_le (by rw [List.length_append]; omega), List.nil_append, List.length_append]

/-- The first k blocks rise. -/
def Blk (s k : Nat) (D : List Ent) : Prop := ∀ j, j < k → Ris ltE (blk D (j * s) s)

theorem Blk.ins {s k : Nat} {P X X' R : List Ent} (h : Blk s k (P ++ X ++ R)) (hP : P.length = k * s) (hs : X.length = s ∨ (X.length ≤ s ∧ R = [])) (hp : X'.Perm X) (hr : Ris ltE X') : Blk s (k + 1) (P ++ X' ++ R) := by
  intro j hj
  by_cases e : j = k
  · subst e
    rw [blk_mid P X' R _ _ hP (by rw [hp.length_eq]; exact hs)]
    exact hr
  · have h1 := h j (by omega)
    have h2 : j * s + s ≤ P.length := by
      rw [hP]
      have := Nat.mul_le_mul_right s (show j + 1 ≤ k by omega)
      rw [Nat.add_mul, Nat.one_mul] at this
      exact this
    rw [List.append_assoc, blk_lo _ _ _ _ h2] at h1 ⊢
    exact h1

/-- Every block rises. -/
def AllB (s : Nat) (D : List Ent) : Prop := ∀ j, Ris ltE (blk D (j * s) s)

theorem blk_past {D : List Ent} {a s : Nat} (h : D.length ≤ a) : blk D a s = [] := by
  unfold blk; rw [List.drop_eq_nil_of_le h, List.take_nil]

theorem ris_nil : Ris ltE [] := List.Pairwise.nil

theorem Blk.all {s k : Nat} {D : List Ent} (h : Blk s k D) (hk : D.length ≤ k * s) : AllB s D := by
  intro j
  by_cases hj : j < k
  · exact h j hj
  · rw [blk_past (Nat.le_trans hk (Nat.mul_le_mul_right s (by omega)))]
    exact ris_nil

theorem AllB.whole {s : Nat} {D : List Ent} (h : AllB s D) (hs : D.length ≤ s) : Ris ltE D := by
  have := h 0
  unfold blk at this
  rw [Nat.zero_mul, List.drop_zero, List.take_of_length_le hs] at this
  exact this

/-- While blocks are merged in twos: the first k are of twice the length. -/
structure Mer (s k : Nat) (D : List Ent) : Prop where
  lo : Blk (2 * s) k D
  hi : ∀ j, 2 * k ≤ j → Ris ltE (blk D (j * s) s)

theorem AllB.mer {s : Nat} {D : List Ent} (h : AllB s D) : Mer s 0 D := ⟨fun j hj => by omega, fun j _ => h j⟩

/-- The two that are merged next. -/
theorem Mer.two {s k : Nat} {P X1 X2 R : List Ent} (h : Mer s k (P ++ (X1 ++ X2) ++ R)) (hP : P.length = k * (2 * s)) (h1 : X1.length = s) (h2 : X2.length = s ∨ (X2.length ≤ s ∧ R = [])) : Ris ltE X1 ∧ Ris ltE X2 := by
  have ha : k * (2 * s) = 2 * k * s := by rw [← Nat.mul_assoc, Nat.mul_comm k 2]
  have e1 := h.hi (2 * k) (Nat.le_refl _)
  have e2 := h.hi (2 * k + 1) (by omega)
  constructor
  · rw [show P ++ (X1 ++ X2) ++ R = P ++ X1 ++ (X2 ++ R) by simp, blk_mid P X1 _ _ _ (by omega) (.inl h1)] at e1
    exact e1
  · rw [show P ++ (X1 ++ X2) ++ R = (P ++ X1) ++ X2 ++ R by simp, blk_mid (P ++ X1) X2 _ _ _ (by rw [List.length_append, Nat.add_mul]; omega) h2] at e2
    exact e2

theorem Mer.step {s k : Nat} {P X X' R : List Ent} (h : Mer s k (P ++ X ++ R)) (hP : P.length = k * (2 * s)) (hs : X.length = 2 * s ∨ (X.length ≤ 2 * s ∧ R = [])) (hp : X'.Perm X) (hr : Ris ltE X') : Mer s (k + 1) (P ++ X' ++ R) := by
  refine ⟨h.lo.ins hP hs hp hr, fun j hj => ?_⟩
  have ha : (k + 1) * (2 * s) ≤ j * s := by
    rw [← Nat.mul_assoc, Nat.mul_comm (k + 1) 2]
    exact Nat.mul_le_mul_right s hj
  rw [Nat.add_mul] at ha
  have h1 := h.hi j (by omega)
  have hl := hp.length_eq
  rcases hs with hs | ⟨hs, rfl⟩
  · rw [blk_hi _ _ _ _ _ (by omega)] at h1 ⊢
    rw [hl]; exact h1
  · rw [blk_past (by simp only [List.length_append, List.length_nil]; omega)]
    exact ris_nil

/-- The end of a round of merges. -/
theorem Mer.all {s k : Nat} {D : List Ent} (h : Mer s k D) (hk : D.length ≤ k * (2 * s) + s) : AllB (2 * s) D := by
  have ha : k * (2 * s) = 2 * k * s := by rw [← Nat.mul_assoc, Nat.mul_comm k 2]
  intro j
  rcases Nat.lt_trichotomy j k with hj | rfl | hj
  · exact h.lo j hj
  · have h1 := h.hi (2 * j) (Nat.le_refl _)
    rw [ha]
    unfold blk at h1 ⊢
    rw [List.take_of_length_le (by rw [List.length_drop]; omega)] at h1 ⊢
    exact h1
  · have := Nat.mul_le_mul_right (2 * s) (show k + 1 ≤ j by omega)
    rw [Nat.add_mul] at this
    rw [blk_past (by omega)]
    exact ris_nil

theorem cut_three (D : List Ent) (a b : Nat) (hab : a ≤ b) (hb : b ≤ D.length) : ∃ P X R, D = P ++ X ++ R ∧ P.length = a ∧ a + X.length = b ∧ (b = D.length → R = []) := by
  refine ⟨D.take a, (D.drop a).take (b - a), D.drop b, ?_, by rw [List.length_take]; omega, by rw [List.length_take, List.length_drop]; omega, fun h => List.drop_eq_nil_of_le (by omega)⟩
  have h1 : D.drop b = (D.drop a).drop (b - a) := by rw [List.drop_drop]; congr 1; omega
  rw [h1, List.append_assoc, List.take_append_drop, List.take_append_drop]

end Go.Proofs.Ytejeadccpigepaa.Dir
/- What a merge's searches find (no program): the cut of case three, the place of cases one and two. -/
namespace Go.Proofs.Ytejeadccpigepaa.Dir
open Go.RowKit Go.Maps Go.Proofs.Ytejeadccpigepaa Go.Proofs.Ytejeadccpigepaa.Ino
set_option maxRecDepth 100000

theorem ris_place {A B : List Ent} {x : Ent} (hr : Ris ltE (A ++ B)) (ha : ∀ y, A.getLast? = some y → ltE x y = false) (hb : ∀ y, B.head? = some y → ltE y x = false) : Ris ltE (A ++ x :: B) := by
  refine ris_insert wk_ltE hr (fun y hy => ?_) ha
  cases B with
  | nil => cases hy
  | cons z r =>
    have hz := hb z rfl
    have h2 := (ris_append.1 hr).2.1
    rcases List.mem_cons.1 hy with rfl | hy
    · exact hz
    · exact wk_ltE.tr x z y hz ((List.pairwise_cons.1 h2).1 y hy)

theorem last_at (P A Z : List Ent) {y : Ent} (h : A.getLast? = some y) : (P ++ A ++ Z)[P.length + A.length - 1]? = some y := by
  obtain ⟨A', rfl⟩ : ∃ A', A = A' ++ [y] := by
    rcases List.eq_nil_or_concat A with e | ⟨L, b, e⟩
    · subst e; cases h
    · rw [e] at h; simp at h; subst h; exact ⟨L, by simpa using e⟩
  rw [List.getElem?_append_left (by simp only [List.length_append, List.length_singleton]; omega), List.getElem?_append_right (by simp only [List.length_append, List.length_singleton]; omega), List.getElem?_append_right (by simp only [List.length_append, List.length_singleton]; omega)]
  simp only [List.length_append, List.length_singleton]
  rw [show P.length + (A'.length + 1) - 1 - P.length - A'.length = 0 by omega]
  rfl

theorem head_at (P B Z : List Ent) {y : Ent} (h : B.head? = some y) : (P ++ (B ++ Z))[P.length]? = some y := by
  cases B with
  | nil => cases h
  | cons z r => simp at h; subst h; simp

/-- One entry, ahead of those that rise: it goes behind Z1. -/
theorem place_one {P Z1 Z2 R : List Ent} {x : Ent} {D : List Ent} (hD : D = P ++ ([x] ++ (Z1 ++ Z2)) ++ R) (hr : Ris ltE (Z1 ++ Z2)) {m i : Nat} (hm : P.length + 1 = m) (hi : m + Z1.length = i)
    (hlo : m < i → ∀ y, D[i - 1]? = some y → ltE y x = true) (hhi : 0 < Z2.length → ∀ y, D[i]? = some y → ltE y x = false) : Ris ltE (Z1 ++ x :: Z2) := by
  refine ris_place hr (fun y hy => ?_) (fun y hy => ?_)
  · have h1 := last_at (P ++ [x]) Z1 (Z2 ++ R) hy
    have hz : 0 < Z1.length := by cases Z1 with | nil => cases hy | cons _ _ => simp
    refine wk_ltE.of_lt (hlo (by omega) y ?_)
    rw [hD, show i - 1 = (P ++ [x]).length + Z1.length - 1 by simp only [List.length_append, List.length_singleton]; omega]
    simpa using h1
  · have h1 := head_at (P ++ [x] ++ Z1) Z2 R hy
    have hz : 0 < Z2.length := by cases Z2 with | nil => cases hy | cons _ _ => simp
    refine hhi hz y ?_
    rw [hD, show i = (P ++ [x] ++ Z1).length by simp only [List.length_append, List.length_singleton]; omega]
    simpa using h1

/-- One entry, behind those that rise: it goes ahead of Y2. -/
theorem place_last {P Y1 Y2 R : List Ent} {x : Ent} {D : List Ent} (hD : D = P ++ ((Y1 ++ Y2) ++ [x]) ++ R) (hr : Ris ltE (Y1 ++ Y2)) {a i : Nat} (ha : P.length = a) (hi : a + Y1.length = i)
    (hlo : a < i → ∀ y, D[i - 1]? = some y → ltE x y = false) (hhi : 0 < Y2.length → ∀ y, D[i]? = some y → ltE x y = true) : Ris ltE (Y1 ++ x :: Y2) := by
  refine ris_place hr (fun y hy => ?_) (fun y hy => ?_)
  · have h1 := last_at P Y1 (Y2 ++ [x] ++ R) hy
    have hz : 0 < Y1.length := by cases Y1 with | nil => cases hy | cons _ _ => simp
    refine hlo (by omega) y ?_
    rw [hD, show i - 1 = P.length + Y1.length - 1 by omega]
    simpa using h1
  · have h1 := head_at (P ++ Y1) Y2 ([x] ++ R) hy
    have hz : 0 < Y2.length := by cases Y2 with | nil => cases hy | cons _ _ => simp
    refine wk_ltE.of_lt (hhi hz y ?_)
    rw [hD, show i = (P ++ Y1).length by simp only [List.length_append]; omega]
    simpa using h1

/-- The cut of a merge: what goes to the left is not after what goes to the right. -/
theorem sym_cut {P Y1 Y2 Z1 Z2 R : List Ent} {D : List Ent} (hD : D = P ++ ((Y1 ++ Y2) ++ (Z1 ++ Z2)) ++ R) (h1 : Ris ltE (Y1 ++ Y2)) (h2 : Ris ltE (Z1 ++ Z2)) {s e : Nat} (hs : P.length + Y1.length = s) (he : P.length + Y1.length + Y2.length + Z1.length = e)
    (hlo : 0 < Y1.length → 0 < Z2.length → ∀ x y, D[s - 1]? = some x → D[e]? = some y → ltE y x = false) (hhi : 0 < Y2.length → 0 < Z1.length → ∀ x y, D[s]? = some x → D[e - 1]? = some y → ltE x y = false) :
    ∀ u ∈ Y1 ++ Z1, ∀ v ∈ Y2 ++ Z2, ltE v u = false := by
  refine cross wk_ltE h1 h2 (fun x y hx hy => ?_) (fun x y hx hy => ?_)
  · have q1 := last_at P Y1 (Y2 ++ (Z1 ++ Z2) ++ R) hx
    have q2 := head_at (P ++ Y1 ++ Y2 ++ Z1) Z2 R hy
    have z1 : 0 < Y1.length := by cases Y1 with | nil => cases hx | cons _ _ => simp
    have z2 : 0 < Z2.length := by cases Z2 with | nil => cases hy | cons _ _ => simp
    refine hlo z1 z2 x y ?_ ?_
    · rw [hD, ← hs]; simpa using q1
    · rw [hD, show e = (P ++ Y1 ++ Y2 ++ Z1).length by simp only [List.length_append]; omega]; simpa using q2
  · have q1 := head_at (P ++ Y1) Y2 ((Z1 ++ Z2) ++ R) hx
    have q2 := last_at (P ++ Y1 ++ Y2) Z1 (Z2 ++ R) hy
    have z1 : 0 < Y2.length := by cases Y2 with | nil => cases hx | cons _ _ => simp
    have z2 : 0 < Z1.length := by cases Z1 with | nil => cases hy | cons _ _ => simp
    refine hhi z1 z2 x y ?_ ?_
    · rw [hD, ← hs, show P.length + Y1.length = (P ++ Y1).length by simp]; simpa using q1
    · rw [hD, show e - 1 = (P ++ Y1 ++ Y2).length + Z1.length - 1 by simp only [List.length_append]; omega]; simpa using q2

end Go.Proofs.Ytejeadccpigepaa.Dir
