/- codec: the reference's comparison of two worlds: its head, and the whole. (made by tools/genre3.py) -/
import Derived.Test.YtpefkellcigpkaaCdRe1
import Derived.Test.YtpefkellcigpkaaCdRe2
import Derived.Test.YtpefkellcigpkaaCdRe3
import Derived.Test.YtpefkellcigpkaaCdReA
import Derived.Test.YtpefkellcigpkaaCdReB
namespace Go.Proofs.Ytpefkellcigpkaa.Cd
open Go.RowKit Go.Deep Go.Proofs.Ytpefkellcigpkaa
set_option maxRecDepth 100000

theorem re_r0 {g o g' o' : Nat} {a : Act} {w : World} {Q : Exit → Act → World → Prop} (ha : FrE (.pointer (some ⟨g, o, none⟩)) (.pointer (some ⟨g', o', none⟩)) a) (h : ∀ a', FrE (.pointer (some ⟨g, o, none⟩)) (.pointer (some ⟨g', o', none⟩)) a' → a'.eval (.tmp 4) = .bool false → Q .normal a' w) : (rgEq 0).wp Try.prog Q a w := by
  obtain ⟨sz, df, e0, e1⟩ := ha
  conv => arg 2; whnf
  refine wp_region_list ?_
  dsimp only
  refine tn (d := 4) (v := ?_) sz ?_ ?_
  rotate_left 1
  · (intro ρ hρ; have rc : ∀ v, ρ (.const v) = v := fun v => hρ _; simp [go_sem, rc] <;> with_reducible rfl)
  intro a N; have sz := N.s sz; have df := N.d df; have e0 := N.o e0; have e1 := N.o e1; have e4 := N.new
  exact h _ ⟨sz, df, e0, e1⟩ e4

theorem re_r1 {g o g' o' : Nat} {a : Act} {w : World} {Q : Exit → Act → World → Prop} (ha : FrE (.pointer (some ⟨g, o, none⟩)) (.pointer (some ⟨g', o', none⟩)) a) (h : ∀ a', FrE (.pointer (some ⟨g, o, none⟩)) (.pointer (some ⟨g', o', none⟩)) a' → a'.eval (.tmp 26) = .bool false → Q .normal a' w) : (rgEq 1).wp Try.prog Q a w := by
  obtain ⟨sz, df, e0, e1⟩ := ha
  conv => arg 2; whnf
  refine wp_region_list ?_
  dsimp only
  refine tn (d := 21) (v := ?_) sz ?_ ?_
  rotate_left 1
  · (intro ρ hρ; have r0 := (hρ _).trans e0; simp [go_sem, r0] <;> with_reducible rfl)
  intro a N; have sz := N.s sz; have df := N.d df; have e0 := N.o e0; have e1 := N.o e1; have e21 := N.new
  refine tn (d := 22) (v := ?_) sz ?_ ?_
  rotate_left 1
  · (intro ρ hρ; have rc : ∀ v, ρ (.const v) = v := fun v => hρ _; have r21 := (hρ _).trans e21; simp [go_sem, rc, r21] <;> with_reducible rfl)
  intro a N; have sz := N.s sz; have df := N.d df; have e0 := N.o e0; have e1 := N.o e1; have e22 := N.new
  refine tn (d := 23) (v := ?_) sz ?_ ?_
  rotate_left 1
  · (intro ρ hρ; have r22 := (hρ _).trans e22; simp [go_sem, r22] <;> with_reducible rfl)
  intro a N; have sz := N.s sz; have df := N.d df; have e0 := N.o e0; have e1 := N.o e1; have e23 := N.new
  refine tk (d := 24) (v := ?_) sz (wanted_is rfl rfl e23 rfl) ?_ ?_
  rotate_left 1
  · (intro ρ hρ; have r1 := (hρ _).trans e1; simp [go_sem, r1] <;> with_reducible rfl)
  intro a N; have sz := N.s sz; have df := N.d df; have e0 := N.o e0; have e1 := N.o e1; have e23 := N.o e23; have e24 := N.new
  refine tk (d := 25) (v := ?_) sz (wanted_is rfl rfl e23 rfl) ?_ ?_
  rotate_left 1
  · (intro ρ hρ; have rc : ∀ v, ρ (.const v) = v := fun v => hρ _; have r24 := (hρ _).trans e24; simp [go_sem, rc, r24] <;> with_reducible rfl)
  intro a N; have sz := N.s sz; have df := N.d df; have e0 := N.o e0; have e1 := N.o e1; have e23 := N.o e23; have e25 := N.new
  refine tn (d := 26) (v := ?_) sz ?_ ?_
  rotate_left 1
  · (intro ρ hρ; have rc : ∀ v, ρ (.const v) = v := fun v => hρ _; have r23 := (hρ _).trans e23; have r25 := (hρ _).trans e25; simp [go_sem, rc, r23, r25] <;> with_reducible rfl)
  intro a N; have sz := N.s sz; have df := N.d df; have e0 := N.o e0; have e1 := N.o e1; have e26 := N.new
  exact h _ ⟨sz, df, e0, e1⟩ e26

theorem re_r4 {g o g' o' : Nat} {a : Act} {w : World} {Q : Exit → Act → World → Prop} (ha : FrE (.pointer (some ⟨g, o, none⟩)) (.pointer (some ⟨g', o', none⟩)) a) (h : ∀ a', FrE (.pointer (some ⟨g, o, none⟩)) (.pointer (some ⟨g', o', none⟩)) a' → a'.eval (.tmp 4) = .bool false → Q .normal a' w) : (rgEq 4).wp Try.prog Q a w := by
  obtain ⟨sz, df, e0, e1⟩ := ha
  conv => arg 2; whnf
  refine wp_region_list ?_
  dsimp only
  refine tn (d := 4) (v := ?_) sz ?_ ?_
  rotate_left 1
  · (intro ρ hρ; have rc : ∀ v, ρ (.const v) = v := fun v => hρ _; simp [go_sem, rc] <;> with_reducible rfl)
  intro a N; have sz := N.s sz; have df := N.d df; have e0 := N.o e0; have e1 := N.o e1; have e4 := N.new
  exact h _ ⟨sz, df, e0, e1⟩ e4

theorem re_r5 {g o g' o' : Nat} {a : Act} {w : World} {Q : Exit → Act → World → Prop} (ha : FrE (.pointer (some ⟨g, o, none⟩)) (.pointer (some ⟨g', o', none⟩)) a) (h : ∀ a', FrE (.pointer (some ⟨g, o, none⟩)) (.pointer (some ⟨g', o', none⟩)) a' → a'.eval (.tmp 5) = .int .i64 0 → Q .normal a' w) : (rgEq 5).wp Try.prog Q a w := by
  obtain ⟨sz, df, e0, e1⟩ := ha
  conv => arg 2; whnf
  refine wp_region_list ?_
  dsimp only
  refine tn (d := 5) (v := ?_) sz ?_ ?_
  rotate_left 1
  · (intro ρ hρ; have rc : ∀ v, ρ (.const v) = v := fun v => hρ _; simp [go_sem, rc] <;> with_reducible rfl)
  intro a N; have sz := N.s sz; have df := N.d df; have e0 := N.o e0; have e1 := N.o e1; have e5 := N.new
  exact h _ ⟨sz, df, e0, e1⟩ e5

theorem re_r11 {g o g' o' : Nat} {a : Act} {w : World} {Q : Exit → Act → World → Prop} (ha : FrE (.pointer (some ⟨g, o, none⟩)) (.pointer (some ⟨g', o', none⟩)) a) (h : ∀ a', FrE (.pointer (some ⟨g, o, none⟩)) (.pointer (some ⟨g', o', none⟩)) a' → a'.eval (.tmp 8) = .int .i64 0 → Q .normal a' w) : (rgEq 11).wp Try.prog Q a w := by
  obtain ⟨sz, df, e0, e1⟩ := ha
  conv => arg 2; whnf
  refine wp_region_list ?_
  dsimp only
  refine tn (d := 8) (v := ?_) sz ?_ ?_
  rotate_left 1
  · (intro ρ hρ; have rc : ∀ v, ρ (.const v) = v := fun v => hρ _; simp [go_sem, rc] <;> with_reducible rfl)
  intro a N; have sz := N.s sz; have df := N.d df; have e0 := N.o e0; have e1 := N.o e1; have e8 := N.new
  exact h _ ⟨sz, df, e0, e1⟩ e8

theorem re_r17 {g o g' o' : Nat} {a : Act} {w : World} {Q : Exit → Act → World → Prop} (ha : FrE (.pointer (some ⟨g, o, none⟩)) (.pointer (some ⟨g', o', none⟩)) a) (h : ∀ a', FrE (.pointer (some ⟨g, o, none⟩)) (.pointer (some ⟨g', o', none⟩)) a' → a'.eval (.tmp 11) = .int .i64 0 → Q .normal a' w) : (rgEq 17).wp Try.prog Q a w := by
  obtain ⟨sz, df, e0, e1⟩ := ha
  conv => arg 2; whnf
  refine wp_region_list ?_
  dsimp only
  refine tn (d := 11) (v := ?_) sz ?_ ?_
  rotate_left 1
  · (intro ρ hρ; have rc : ∀ v, ρ (.const v) = v := fun v => hρ _; simp [go_sem, rc] <;> with_reducible rfl)
  intro a N; have sz := N.s sz; have df := N.d df; have e0 := N.o e0; have e1 := N.o e1; have e11 := N.new
  exact h _ ⟨sz, df, e0, e1⟩ e11

theorem re_r23 {g o g' o' : Nat} {a : Act} {w : World} {Q : Exit → Act → World → Prop} (ha : FrE (.pointer (some ⟨g, o, none⟩)) (.pointer (some ⟨g', o', none⟩)) a) (h : ∀ a', FrE (.pointer (some ⟨g, o, none⟩)) (.pointer (some ⟨g', o', none⟩)) a' → a'.eval (.tmp 14) = .int .i64 0 → Q .normal a' w) : (rgEq 23).wp Try.prog Q a w := by
  obtain ⟨sz, df, e0, e1⟩ := ha
  conv => arg 2; whnf
  refine wp_region_list ?_
  dsimp only
  refine tn (d := 14) (v := ?_) sz ?_ ?_
  rotate_left 1
  · (intro ρ hρ; have rc : ∀ v, ρ (.const v) = v := fun v => hρ _; simp [go_sem, rc] <;> with_reducible rfl)
  intro a N; have sz := N.s sz; have df := N.d df; have e0 := N.o e0; have e1 := N.o e1; have e14 := N.new
  exact h _ ⟨sz, df, e0, e1⟩ e14

theorem re_r29 {g o g' o' : Nat} {a : Act} {w : World} {Q : Exit → Act → World → Prop} (ha : FrE (.pointer (some ⟨g, o, none⟩)) (.pointer (some ⟨g', o', none⟩)) a) (h : ∀ a', FrE (.pointer (some ⟨g, o, none⟩)) (.pointer (some ⟨g', o', none⟩)) a' → a'.eval (.tmp 17) = .int .i64 0 → Q .normal a' w) : (rgEq 29).wp Try.prog Q a w := by
  obtain ⟨sz, df, e0, e1⟩ := ha
  conv => arg 2; whnf
  refine wp_region_list ?_
  dsimp only
  refine tn (d := 17) (v := ?_) sz ?_ ?_
  rotate_left 1
  · (intro ρ hρ; have rc : ∀ v, ρ (.const v) = v := fun v => hρ _; simp [go_sem, rc] <;> with_reducible rfl)
  intro a N; have sz := N.s sz; have df := N.d df; have e0 := N.o e0; have e1 := N.o e1; have e17 := N.new
  exact h _ ⟨sz, df, e0, e1⟩ e17

theorem re_r35 {g o g' o' : Nat} {a : Act} {w : World} {Q : Exit → Act → World → Prop} (ha : FrE (.pointer (some ⟨g, o, none⟩)) (.pointer (some ⟨g', o', none⟩)) a) (h : ∀ a', FrE (.pointer (some ⟨g, o, none⟩)) (.pointer (some ⟨g', o', none⟩)) a' → a'.eval (.tmp 20) = .int .i64 0 → Q .normal a' w) : (rgEq 35).wp Try.prog Q a w := by
  obtain ⟨sz, df, e0, e1⟩ := ha
  conv => arg 2; whnf
  refine wp_region_list ?_
  dsimp only
  refine tn (d := 20) (v := ?_) sz ?_ ?_
  rotate_left 1
  · (intro ρ hρ; have rc : ∀ v, ρ (.const v) = v := fun v => hρ _; simp [go_sem, rc] <;> with_reducible rfl)
  intro a N; have sz := N.s sz; have df := N.d df; have e0 := N.o e0; have e1 := N.o e1; have e20 := N.new
  exact h _ ⟨sz, df, e0, e1⟩ e20

theorem re_r40 {g o g' o' : Nat} {a : Act} {w : World} {Q : Exit → Act → World → Prop} (ha : FrE (.pointer (some ⟨g, o, none⟩)) (.pointer (some ⟨g', o', none⟩)) a) (h : ∀ a', FrE (.pointer (some ⟨g, o, none⟩)) (.pointer (some ⟨g', o', none⟩)) a' → a'.eval (.tmp 4) = .bool true → Q .normal a' w) : (rgEq 40).wp Try.prog Q a w := by
  obtain ⟨sz, df, e0, e1⟩ := ha
  conv => arg 2; whnf
  refine wp_region_list ?_
  dsimp only
  refine tn (d := 4) (v := ?_) sz ?_ ?_
  rotate_left 1
  · (intro ρ hρ; have rc : ∀ v, ρ (.const v) = v := fun v => hρ _; simp [go_sem, rc] <;> with_reducible rfl)
  intro a N; have sz := N.s sz; have df := N.d df; have e0 := N.o e0; have e1 := N.o e1; have e4 := N.new
  exact h _ ⟨sz, df, e0, e1⟩ e4

set_option maxHeartbeats 8000000 in
theorem re_head {g o g' o' : Nat} {a : Act} {w : World} {Q : Exit → Act → World → Prop} {x0 x1 x2 y0 y1 y2 : Int} {aC bC : Option Addr} {nC dC kC eC : Nat} {aT bT : Option Addr} {nT dT kT eT : Nat} {aM bM : Option Addr} {nM dM kM eM : Nat} {aH bH : Option Addr} {nH dH kH eH : Nat} {aL bL : Option Addr} {nL dL kL eL : Nat} {aI bI : Option Addr} {nI dI kI eI : Nat} (hQ : PanicOnly Q) (ha : FrE (.pointer (some ⟨g, o, none⟩)) (.pointer (some ⟨g', o', none⟩)) a)
    (HP : Hid (∀ w', Keep (fun _ => False) w w' → (w'.cell? ⟨g, o, none⟩ = some (.int .i64 x0) ∧ w'.cell? ⟨g, o + 1, none⟩ = some (.int .i64 x1) ∧ w'.cell? ⟨g, o + 2, none⟩ = some (.int .i64 x2) ∧ w'.cell? ⟨g, o + 3, none⟩ = some (.slice aC nC dC) ∧ w'.cell? ⟨g, o + 4, none⟩ = some (.slice aT nT dT) ∧ w'.cell? ⟨g, o + 5, none⟩ = some (.slice aM nM dM) ∧ w'.cell? ⟨g, o + 6, none⟩ = some (.slice aH nH dH) ∧ w'.cell? ⟨g, o + 7, none⟩ = some (.slice aL nL dL) ∧ w'.cell? ⟨g, o + 8, none⟩ = some (.slice aI nI dI)) ∧ (w'.cell? ⟨g', o', none⟩ = some (.int .i64 y0) ∧ w'.cell? ⟨g', o' + 1, none⟩ = some (.int .i64 y1) ∧ w'.cell? ⟨g', o' + 2, none⟩ = some (.int .i64 y2) ∧ w'.cell? ⟨g', o' + 3, none⟩ = some (.slice bC kC eC) ∧ w'.cell? ⟨g', o' + 4, none⟩ = some (.slice bT kT eT) ∧ w'.cell? ⟨g', o' + 5, none⟩ = some (.slice bM kM eM) ∧ w'.cell? ⟨g', o' + 6, none⟩ = some (.slice bH kH eH) ∧ w'.cell? ⟨g', o' + 7, none⟩ = some (.slice bL kL eL) ∧ w'.cell? ⟨g', o' + 8, none⟩ = some (.slice bI kI eI))))
    (h : ∀ a' w' b, FrE (.pointer (some ⟨g, o, none⟩)) (.pointer (some ⟨g', o', none⟩)) a' → a'.eval (.tmp 141) = .bool b → (b = false ↔ (x0 = y0 ∧ x1 = y1 ∧ x2 = y2 ∧ nC = kC ∧ nT = kT ∧ nM = kM ∧ nH = kH ∧ nL = kL ∧ nI = kI)) → Keep (fun _ => False) w w' → Q .normal a' w') : (rgEq 3).wp Try.prog Q a w := by
  by_cases hne : x0 = y0 ∧ x1 = y1 ∧ x2 = y2
  · obtain ⟨rfl, rfl, rfl⟩ := hne
    exact re_headB hQ ha HP h
  · exact re_headA hQ ha HP hne h

set_option maxHeartbeats 8000000 in
theorem rEq_any {w : World} {Pb Qb : Nat → Prop} {p q : Value} {x y : MWorld} (hx : PAt eWorld Pb w p x) (hy : PAt eWorld Qb w q y) : Calls Try.prog 10 #[p, q] w (EqA x y w) := by
  obtain ⟨x0, x1, x2, xC, xT, xM, xH, xL, xI⟩ := x
  obtain ⟨y0, y1, y2, yC, yT, yM, yH, yL, yI⟩ := y
  obtain ⟨g, o, cs, rfl, hg, _, ⟨v1, v2, v3, v4, v5, v6, l1, l2, l3, l4, l5, l6, rfl⟩, hr⟩ := hx
  obtain ⟨g', o', cs', rfl, hg', _, ⟨u1, u2, u3, u4, u5, u6, m1, m2, m3, m4, m5, m6, rfl⟩, hr'⟩ := hy
  simp only at l1 l2 l3 l4 l5 l6 m1 m2 m3 m4 m5 m6 hr hr' 
  obtain ⟨aC, dC, rfl, _⟩ := l1.slice
  obtain ⟨bC, eC, rfl, _⟩ := m1.slice
  obtain ⟨nC, hn1⟩ : ∃ n, n = xC.length := ⟨_, rfl⟩
  obtain ⟨kC, hk1⟩ : ∃ n, n = yC.length := ⟨_, rfl⟩
  rw [← hn1] at l1 hr
  rw [← hk1] at m1 hr' 
  obtain ⟨aT, dT, rfl, _⟩ := l2.slice
  obtain ⟨bT, eT, rfl, _⟩ := m2.slice
  obtain ⟨nT, hn2⟩ : ∃ n, n = xT.length := ⟨_, rfl⟩
  obtain ⟨kT, hk2⟩ : ∃ n, n = yT.length := ⟨_, rfl⟩
  rw [← hn2] at l2 hr
  rw [← hk2] at m2 hr' 
  obtain ⟨aM, dM, rfl, _⟩ := l3.slice
  obtain ⟨bM, eM, rfl, _⟩ := m3.slice
  obtain ⟨nM, hn3⟩ : ∃ n, n = xM.length := ⟨_, rfl⟩
  obtain ⟨kM, hk3⟩ : ∃ n, n = yM.length := ⟨_, rfl⟩
  rw [← hn3] at l3 hr
  rw [← hk3] at m3 hr' 
  obtain ⟨aH, dH, rfl, _⟩ := l4.slice
  obtain ⟨bH, eH, rfl, _⟩ := m4.slice
  obtain ⟨nH, hn4⟩ : ∃ n, n = xH.length := ⟨_, rfl⟩
  obtain ⟨kH, hk4⟩ : ∃ n, n = yH.length := ⟨_, rfl⟩
  rw [← hn4] at l4 hr
  rw [← hk4] at m4 hr' 
  obtain ⟨aL, dL, rfl, _⟩ := l5.slice
  obtain ⟨bL, eL, rfl, _⟩ := m5.slice
  obtain ⟨nL, hn5⟩ : ∃ n, n = xL.length := ⟨_, rfl⟩
  obtain ⟨kL, hk5⟩ : ∃ n, n = yL.length := ⟨_, rfl⟩
  rw [← hn5] at l5 hr
  rw [← hk5] at m5 hr' 
  obtain ⟨aI, dI, rfl, _⟩ := l6.slice
  obtain ⟨bI, eI, rfl, _⟩ := m6.slice
  obtain ⟨nI, hn6⟩ : ∃ n, n = xI.length := ⟨_, rfl⟩
  obtain ⟨kI, hk6⟩ : ∃ n, n = yI.length := ⟨_, rfl⟩
  rw [← hn6] at l6 hr
  rw [← hk6] at m6 hr' 
  have HP : Hid (∀ w', Keep (fun _ => False) w w' → (w'.cell? ⟨g, o, none⟩ = some (.int .i64 x0) ∧ w'.cell? ⟨g, o + 1, none⟩ = some (.int .i64 x1) ∧ w'.cell? ⟨g, o + 2, none⟩ = some (.int .i64 x2) ∧ w'.cell? ⟨g, o + 3, none⟩ = some (.slice aC nC dC) ∧ w'.cell? ⟨g, o + 4, none⟩ = some (.slice aT nT dT) ∧ w'.cell? ⟨g, o + 5, none⟩ = some (.slice aM nM dM) ∧ w'.cell? ⟨g, o + 6, none⟩ = some (.slice aH nH dH) ∧ w'.cell? ⟨g, o + 7, none⟩ = some (.slice aL nL dL) ∧ w'.cell? ⟨g, o + 8, none⟩ = some (.slice aI nI dI)) ∧ (w'.cell? ⟨g', o', none⟩ = some (.int .i64 y0) ∧ w'.cell? ⟨g', o' + 1, none⟩ = some (.int .i64 y1) ∧ w'.cell? ⟨g', o' + 2, none⟩ = some (.int .i64 y2) ∧ w'.cell? ⟨g', o' + 3, none⟩ = some (.slice bC kC eC) ∧ w'.cell? ⟨g', o' + 4, none⟩ = some (.slice bT kT eT) ∧ w'.cell? ⟨g', o' + 5, none⟩ = some (.slice bM kM eM) ∧ w'.cell? ⟨g', o' + 6, none⟩ = some (.slice bH kH eH) ∧ w'.cell? ⟨g', o' + 7, none⟩ = some (.slice bL kL eL) ∧ w'.cell? ⟨g', o' + 8, none⟩ = some (.slice bI kI eI))) := Lib.hid (fun w' k => by
    have h := rangeAt_keep hr k hg (fun h => h)
    have h' := rangeAt_keep hr' k hg' (fun h => h)
    exact ⟨⟨by simpa using h 0 _ rfl, h 1 _ rfl, h 2 _ rfl, h 3 _ rfl, h 4 _ rfl, h 5 _ rfl, h 6 _ rfl, h 7 _ rfl, h 8 _ rfl⟩, by simpa using h' 0 _ rfl, h' 1 _ rfl, h' 2 _ rfl, h' 3 _ rfl, h' 4 _ rfl, h' 5 _ rfl, h' 6 _ rfl, h' 7 _ rfl, h' 8 _ rfl⟩)
  have hrt : ∀ {b : Bool} {a : Act} {w9 : World}, FrE (.pointer (some ⟨g, o, none⟩)) (.pointer (some ⟨g', o', none⟩)) a → a.eval (.tmp 4) = .bool b → Keep (fun _ => False) w w9 → (b = true ↔ ((x0, x1, x2, xC, xT, xM, xH, xL, xI) : MWorld) = (y0, y1, y2, yC, yT, yM, yH, yL, yI)) → bodyPost Try.prog Try.f10 (EqA ((x0, x1, x2, xC, xT, xM, xH, xL, xI) : MWorld) (y0, y1, y2, yC, yT, yM, yH, yL, yI) w) .ret a w9 := fun {b a w9} hf h4 hk hR => bodyPost_ret (v := .bool b) (by
    rw [results_tmp (t := 4) rfl]
    exact congrArg (fun v => Result.ok v w9) h4) hf.defers ⟨b, rfl, hR, hk⟩
  have PO : ∀ {R : Ending → World → Prop}, PanicOnly (bodyPost Try.prog Try.f10 R) := fun c a d v w h => by cases d <;> exact h
  clear hr hr'
  go_enter Try.func10, Try.ntmps10
  refine wp_seq (re_r0 ⟨by rfl, rfl, rfl, rfl⟩ (fun a1 f1 _ => ?_))
  refine wp_seq (wp_seq (re_r1 f1 (fun a2 f2 c2 => wp_cond_false c2 (wp_skip ?_))))
  refine wp_seq (wp_seq (re_head (fun c a d v w h => PO c a d v w h) f2 HP (fun a3 w3 b f3 c3 hs k3 => ?_)))
  cases b with
  | true =>
    refine wp_cond_true c3 (wp_seq (re_r4 f3 (fun a4 f4 c4 => wp_ret (hrt f4 c4 k3 ⟨fun h => (by cases h), fun h => ?_⟩))))
    simp only [Prod.mk.injEq] at h
    obtain ⟨t0, t1, t2, t3, t4, t5, t6, t7, t8⟩ := h
    have := hs.2 ⟨t0, t1, t2, by rw [hn1, hk1, t3], by rw [hn2, hk2, t4], by rw [hn3, hk3, t5], by rw [hn4, hk4, t6], by rw [hn5, hk5, t7], by rw [hn6, hk6, t8]⟩
    cases this
  | false =>
  refine wp_cond_false c3 (wp_skip ?_)
  obtain ⟨rfl, rfl, rfl, rfl, rfl, rfl, rfl, rfl, rfl⟩ := hs.1 rfl
  refine wp_seq (wp_seq (re_r5 f3 (fun p1 q1 z1 => ?_)))
  show Code.wp _ _ _ _ _
  refine reC_loop ?_ l1 m1 hn1 hk1 (Lib.hid (fun w' k => ⟨(HP.out _ k).1.2.2.2.1, (HP.out _ k).2.2.2.2.1⟩)) ?_ ?_ q1 z1 k3
  · exact fun c a d v w h => PO c a d v w h
  · exact fun a w f c4 k hne => hrt f c4 k ⟨fun h => (by cases h), fun h => absurd (congrArg (fun z => z.2.2.2.1) h) hne⟩
  intro r1 s1 t1 y1 h1
  subst h1
  refine wp_seq (wp_seq (re_r11 t1 (fun p2 q2 z2 => ?_)))
  show Code.wp _ _ _ _ _
  refine reT_loop ?_ l2 m2 hn2 hk2 (Lib.hid (fun w' k => ⟨(HP.out _ k).1.2.2.2.2.1, (HP.out _ k).2.2.2.2.2.1⟩)) ?_ ?_ q2 z2 y1
  · exact fun c a d v w h => PO c a d v w h
  · exact fun a w f c4 k hne => hrt f c4 k ⟨fun h => (by cases h), fun h => absurd (congrArg (fun z => z.2.2.2.2.1) h) hne⟩
  intro r2 s2 t2 y2 h2
  subst h2
  refine wp_seq (wp_seq (re_r17 t2 (fun p3 q3 z3 => ?_)))
  show Code.wp _ _ _ _ _
  refine reM_loop ?_ l3 m3 hn3 hk3 (Lib.hid (fun w' k => ⟨(HP.out _ k).1.2.2.2.2.2.1, (HP.out _ k).2.2.2.2.2.2.1⟩)) ?_ ?_ q3 z3 y2
  · exact fun c a d v w h => PO c a d v w h
  · exact fun a w f c4 k hne => hrt f c4 k ⟨fun h => (by cases h), fun h => absurd (congrArg (fun z => z.2.2.2.2.2.1) h) hne⟩
  intro r3 s3 t3 y3 h3
  subst h3
  refine wp_seq (wp_seq (re_r23 t3 (fun p4 q4 z4 => ?_)))
  show Code.wp _ _ _ _ _
  refine reH_loop ?_ l4 m4 hn4 hk4 (Lib.hid (fun w' k => ⟨(HP.out _ k).1.2.2.2.2.2.2.1, (HP.out _ k).2.2.2.2.2.2.2.1⟩)) ?_ ?_ q4 z4 y3
  · exact fun c a d v w h => PO c a d v w h
  · exact fun a w f c4 k hne => hrt f c4 k ⟨fun h => (by cases h), fun h => absurd (congrArg (fun z => z.2.2.2.2.2.2.1) h) hne⟩
  intro r4 s4 t4 y4 h4
  subst h4
  refine wp_seq (wp_seq (re_r29 t4 (fun p5 q5 z5 => ?_)))
  show Code.wp _ _ _ _ _
  refine reL_loop ?_ l5 m5 hn5 hk5 (Lib.hid (fun w' k => ⟨(HP.out _ k).1.2.2.2.2.2.2.2.1, (HP.out _ k).2.2.2.2.2.2.2.2.1⟩)) ?_ ?_ q5 z5 y4
  · exact fun c a d v w h => PO c a d v w h
  · exact fun a w f c4 k hne => hrt f c4 k ⟨fun h => (by cases h), fun h => absurd (congrArg (fun z => z.2.2.2.2.2.2.2.1) h) hne⟩
  intro r5 s5 t5 y5 h5
  subst h5
  refine wp_seq (wp_seq (re_r35 t5 (fun p6 q6 z6 => ?_)))
  show Code.wp _ _ _ _ _
  refine reI_loop ?_ l6 m6 hn6 hk6 (Lib.hid (fun w' k => ⟨(HP.out _ k).1.2.2.2.2.2.2.2.2, (HP.out _ k).2.2.2.2.2.2.2.2.2⟩)) ?_ ?_ q6 z6 y5
  · exact fun c a d v w h => PO c a d v w h
  · exact fun a w f c4 k hne => hrt f c4 k ⟨fun h => (by cases h), fun h => absurd (congrArg (fun z => z.2.2.2.2.2.2.2.2) h) hne⟩
  intro r6 s6 t6 y6 h6
  subst h6
  refine wp_seq (re_r40 t6 (fun a5 f5 c5 => wp_ret (hrt f5 c5 y6 ⟨fun _ => rfl, fun _ => rfl⟩)))

end Go.Proofs.Ytpefkellcigpkaa.Cd
