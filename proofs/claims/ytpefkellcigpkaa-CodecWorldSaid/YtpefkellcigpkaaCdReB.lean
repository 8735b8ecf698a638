/- codec: the reference's comparison of two worlds: its head, the lists. (made by tools/genre3.py) -/
import Derived.Test.YtpefkellcigpkaaCdReL
namespace Go.Proofs.Ytpefkellcigpkaa.Cd
open Go.RowKit Go.Deep Go.Proofs.Ytpefkellcigpkaa
set_option maxRecDepth 100000

set_option maxHeartbeats 8000000 in
theorem re_headB {g o g' o' : Nat} {a : Act} {w : World} {Q : Exit → Act → World → Prop} {x0 x1 x2 : Int} {aC bC : Option Addr} {nC dC kC eC : Nat} {aT bT : Option Addr} {nT dT kT eT : Nat} {aM bM : Option Addr} {nM dM kM eM : Nat} {aH bH : Option Addr} {nH dH kH eH : Nat} {aL bL : Option Addr} {nL dL kL eL : Nat} {aI bI : Option Addr} {nI dI kI eI : Nat} (hQ : PanicOnly Q) (ha : FrE (.pointer (some ⟨g, o, none⟩)) (.pointer (some ⟨g', o', none⟩)) a)
    (HP : Hid (∀ w', Keep (fun _ => False) w w' → (w'.cell? ⟨g, o, none⟩ = some (.int .i64 x0) ∧ w'.cell? ⟨g, o + 1, none⟩ = some (.int .i64 x1) ∧ w'.cell? ⟨g, o + 2, none⟩ = some (.int .i64 x2) ∧ w'.cell? ⟨g, o + 3, none⟩ = some (.slice aC nC dC) ∧ w'.cell? ⟨g, o + 4, none⟩ = some (.slice aT nT dT) ∧ w'.cell? ⟨g, o + 5, none⟩ = some (.slice aM nM dM) ∧ w'.cell? ⟨g, o + 6, none⟩ = some (.slice aH nH dH) ∧ w'.cell? ⟨g, o + 7, none⟩ = some (.slice aL nL dL) ∧ w'.cell? ⟨g, o + 8, none⟩ = some (.slice aI nI dI)) ∧ (w'.cell? ⟨g', o', none⟩ = some (.int .i64 x0) ∧ w'.cell? ⟨g', o' + 1, none⟩ = some (.int .i64 x1) ∧ w'.cell? ⟨g', o' + 2, none⟩ = some (.int .i64 x2) ∧ w'.cell? ⟨g', o' + 3, none⟩ = some (.slice bC kC eC) ∧ w'.cell? ⟨g', o' + 4, none⟩ = some (.slice bT kT eT) ∧ w'.cell? ⟨g', o' + 5, none⟩ = some (.slice bM kM eM) ∧ w'.cell? ⟨g', o' + 6, none⟩ = some (.slice bH kH eH) ∧ w'.cell? ⟨g', o' + 7, none⟩ = some (.slice bL kL eL) ∧ w'.cell? ⟨g', o' + 8, none⟩ = some (.slice bI kI eI))))
    (h : ∀ a' w' b, FrE (.pointer (some ⟨g, o, none⟩)) (.pointer (some ⟨g', o', none⟩)) a' → a'.eval (.tmp 141) = .bool b → (b = false ↔ (x0 = x0 ∧ x1 = x1 ∧ x2 = x2 ∧ nC = kC ∧ nT = kT ∧ nM = kM ∧ nH = kH ∧ nL = kL ∧ nI = kI)) → Keep (fun _ => False) w w' → Q .normal a' w') : (rgEq 3).wp Try.prog Q a w := by
  obtain ⟨sz, df, e0, e1⟩ := ha
  conv => arg 2; whnf
  have hCK : ∀ w9, (∃ n, w9 = w.drewN n) → Keep (fun _ => False) w w9 := fun w9 ⟨n, e⟩ => e ▸ kdrewF w n
  refine wp_region_quiet_lit (by kernel_rfl) ?_ (wq_open (fun O hO => ?_))
  · exact lex_head _ rfl
  have g9 : (O[9]?).bind (·.dst) = some 42 := by rw [hO]; rfl
  have g20 : (O[20]?).bind (·.dst) = some 53 := by rw [hO]; rfl
  have g31 : (O[31]?).bind (·.dst) = some 64 := by rw [hO]; rfl
  have g44 : (O[44]?).bind (·.dst) = some 77 := by rw [hO]; rfl
  have g57 : (O[57]?).bind (·.dst) = some 90 := by rw [hO]; rfl
  have g70 : (O[70]?).bind (·.dst) = some 103 := by rw [hO]; rfl
  have g83 : (O[83]?).bind (·.dst) = some 116 := by rw [hO]; rfl
  have g96 : (O[96]?).bind (·.dst) = some 129 := by rw [hO]; rfl
  clear hO
  refine qn (d := 33) (v := ?_) sz ?_ ?_
  rotate_left 1
  · (intro w9 hC9 ρ hρ; have r0 := (hρ _).trans e0; simp [go_sem, r0] <;> with_reducible rfl)
  intro a N; have sz := N.s sz; have df := N.d df; have e0 := N.o e0; have e1 := N.o e1; have e33 := N.new
  refine qn (d := 34) (v := ?_) sz ?_ ?_
  rotate_left 1
  · (intro w9 hC9 ρ hρ; have r33 := (hρ _).trans e33; simp [go_sem, r33] <;> with_reducible rfl)
  intro a N; have sz := N.s sz; have df := N.d df; have e0 := N.o e0; have e1 := N.o e1; have e34 := N.new
  refine qn (d := 35) (v := ?_) sz ?_ ?_
  rotate_left 1
  · (intro w9 hC9 ρ hρ; have r34 := (hρ _).trans e34; simp [go_sem, r34] <;> with_reducible rfl)
  intro a N; have sz := N.s sz; have df := N.d df; have e0 := N.o e0; have e1 := N.o e1; have e35 := N.new
  refine qn (d := 36) (v := ?_) sz ?_ ?_
  rotate_left 1
  · (intro w9 hC9 ρ hρ; have hS9 := hCK w9 hC9; have cc : w9.cell? ⟨g, o, none⟩ = some (.int .i64 x0) := (HP.out _ hS9).1.1; have r35 := (hρ _).trans e35; simp [go_sem, r35, cc] <;> with_reducible rfl)
  intro a N; have sz := N.s sz; have df := N.d df; have e0 := N.o e0; have e1 := N.o e1; have e36 := N.new
  refine qn (d := 37) (v := ?_) sz ?_ ?_
  rotate_left 1
  · (intro w9 hC9 ρ hρ; have r1 := (hρ _).trans e1; simp [go_sem, r1] <;> with_reducible rfl)
  intro a N; have sz := N.s sz; have df := N.d df; have e0 := N.o e0; have e1 := N.o e1; have e36 := N.o e36; have e37 := N.new
  refine qn (d := 38) (v := ?_) sz ?_ ?_
  rotate_left 1
  · (intro w9 hC9 ρ hρ; have r37 := (hρ _).trans e37; simp [go_sem, r37] <;> with_reducible rfl)
  intro a N; have sz := N.s sz; have df := N.d df; have e0 := N.o e0; have e1 := N.o e1; have e36 := N.o e36; have e38 := N.new
  refine qn (d := 39) (v := ?_) sz ?_ ?_
  rotate_left 1
  · (intro w9 hC9 ρ hρ; have r38 := (hρ _).trans e38; simp [go_sem, r38] <;> with_reducible rfl)
  intro a N; have sz := N.s sz; have df := N.d df; have e0 := N.o e0; have e1 := N.o e1; have e36 := N.o e36; have e39 := N.new
  refine qn (d := 40) (v := ?_) sz ?_ ?_
  rotate_left 1
  · (intro w9 hC9 ρ hρ; have hS9 := hCK w9 hC9; have cc : w9.cell? ⟨g', o', none⟩ = some (.int .i64 x0) := (HP.out _ hS9).2.1; have r39 := (hρ _).trans e39; simp [go_sem, r39, cc] <;> with_reducible rfl)
  intro a N; have sz := N.s sz; have df := N.d df; have e0 := N.o e0; have e1 := N.o e1; have e36 := N.o e36; have e40 := N.new
  refine qn (d := 41) (v := ?_) sz ?_ ?_
  rotate_left 1
  · (intro w9 hC9 ρ hρ; have r36 := (hρ _).trans e36; have r40 := (hρ _).trans e40; simp [go_sem, r36, r40] <;> with_reducible rfl)
  intro a N; have sz := N.s sz; have df := N.d df; have e0 := N.o e0; have e1 := N.o e1; have e41 := N.new
  refine qn (d := 42) (v := ?_) sz ?_ ?_
  rotate_left 1
  · (intro w9 hC9 ρ hρ; have r41 := (hρ _).trans e41; simp [go_sem, r41] <;> with_reducible rfl)
  intro a N; have sz := N.s sz; have df := N.d df; have e0 := N.o e0; have e1 := N.o e1; have e42 := N.new
  refine qk (d := 43) (v := ?_) sz (wanted_is rfl g9 e42 rfl) ?_ ?_
  rotate_left 1
  · (intro w9 hC9 ρ hρ; have r0 := (hρ _).trans e0; simp [go_sem, r0] <;> with_reducible rfl)
  intro a N; have sz := N.s sz; have df := N.d df; have e0 := N.o e0; have e1 := N.o e1; have e42 := N.o e42; have e43 := N.new
  refine qk (d := 44) (v := ?_) sz (wanted_is rfl g9 e42 rfl) ?_ ?_
  rotate_left 1
  · (intro w9 hC9 ρ hρ; have r43 := (hρ _).trans e43; simp [go_sem, r43] <;> with_reducible rfl)
  intro a N; have sz := N.s sz; have df := N.d df; have e0 := N.o e0; have e1 := N.o e1; have e42 := N.o e42; have e44 := N.new
  refine qk (d := 45) (v := ?_) sz (wanted_is rfl g9 e42 rfl) ?_ ?_
  rotate_left 1
  · (intro w9 hC9 ρ hρ; have r44 := (hρ _).trans e44; simp [go_sem, r44] <;> with_reducible rfl)
  intro a N; have sz := N.s sz; have df := N.d df; have e0 := N.o e0; have e1 := N.o e1; have e42 := N.o e42; have e45 := N.new
  refine qk (d := 46) (v := ?_) sz (wanted_is rfl g9 e42 rfl) ?_ ?_
  rotate_left 1
  · (intro w9 hC9 ρ hρ; have hS9 := hCK w9 hC9; have cc : w9.cell? ⟨g, o + 1, none⟩ = some (.int .i64 x1) := (HP.out _ hS9).1.2.1; have r45 := (hρ _).trans e45; simp [go_sem, r45, cc] <;> with_reducible rfl)
  intro a N; have sz := N.s sz; have df := N.d df; have e0 := N.o e0; have e1 := N.o e1; have e42 := N.o e42; have e46 := N.new
  refine qk (d := 47) (v := ?_) sz (wanted_is rfl g9 e42 rfl) ?_ ?_
  rotate_left 1
  · (intro w9 hC9 ρ hρ; have r1 := (hρ _).trans e1; simp [go_sem, r1] <;> with_reducible rfl)
  intro a N; have sz := N.s sz; have df := N.d df; have e0 := N.o e0; have e1 := N.o e1; have e42 := N.o e42; have e46 := N.o e46; have e47 := N.new
  refine qk (d := 48) (v := ?_) sz (wanted_is rfl g9 e42 rfl) ?_ ?_
  rotate_left 1
  · (intro w9 hC9 ρ hρ; have r47 := (hρ _).trans e47; simp [go_sem, r47] <;> with_reducible rfl)
  intro a N; have sz := N.s sz; have df := N.d df; have e0 := N.o e0; have e1 := N.o e1; have e42 := N.o e42; have e46 := N.o e46; have e48 := N.new
  refine qk (d := 49) (v := ?_) sz (wanted_is rfl g9 e42 rfl) ?_ ?_
  rotate_left 1
  · (intro w9 hC9 ρ hρ; have r48 := (hρ _).trans e48; simp [go_sem, r48] <;> with_reducible rfl)
  intro a N; have sz := N.s sz; have df := N.d df; have e0 := N.o e0; have e1 := N.o e1; have e42 := N.o e42; have e46 := N.o e46; have e49 := N.new
  refine qk (d := 50) (v := ?_) sz (wanted_is rfl g9 e42 rfl) ?_ ?_
  rotate_left 1
  · (intro w9 hC9 ρ hρ; have hS9 := hCK w9 hC9; have cc : w9.cell? ⟨g', o' + 1, none⟩ = some (.int .i64 x1) := (HP.out _ hS9).2.2.1; have r49 := (hρ _).trans e49; simp [go_sem, r49, cc] <;> with_reducible rfl)
  intro a N; have sz := N.s sz; have df := N.d df; have e0 := N.o e0; have e1 := N.o e1; have e42 := N.o e42; have e46 := N.o e46; have e50 := N.new
  refine qk (d := 51) (v := ?_) sz (wanted_is rfl g9 e42 rfl) ?_ ?_
  rotate_left 1
  · (intro w9 hC9 ρ hρ; have r46 := (hρ _).trans e46; have r50 := (hρ _).trans e50; simp [go_sem, r46, r50] <;> with_reducible rfl)
  intro a N; have sz := N.s sz; have df := N.d df; have e0 := N.o e0; have e1 := N.o e1; have e42 := N.o e42; have e51 := N.new
  refine qn (d := 52) (v := ?_) sz ?_ ?_
  rotate_left 1
  · (intro w9 hC9 ρ hρ; have rc : ∀ v, ρ (.const v) = v := fun v => hρ _; have r42 := (hρ _).trans e42; have r51 := (hρ _).trans e51; simp [go_sem, rc, r42, r51] <;> with_reducible rfl)
  intro a N; have sz := N.s sz; have df := N.d df; have e0 := N.o e0; have e1 := N.o e1; have e52 := N.new
  refine qn (d := 53) (v := ?_) sz ?_ ?_
  rotate_left 1
  · (intro w9 hC9 ρ hρ; have r52 := (hρ _).trans e52; simp [go_sem, r52] <;> with_reducible rfl)
  intro a N; have sz := N.s sz; have df := N.d df; have e0 := N.o e0; have e1 := N.o e1; have e53 := N.new
  refine qk (d := 54) (v := ?_) sz (wanted_is rfl g20 e53 rfl) ?_ ?_
  rotate_left 1
  · (intro w9 hC9 ρ hρ; have r0 := (hρ _).trans e0; simp [go_sem, r0] <;> with_reducible rfl)
  intro a N; have sz := N.s sz; have df := N.d df; have e0 := N.o e0; have e1 := N.o e1; have e53 := N.o e53; have e54 := N.new
  refine qk (d := 55) (v := ?_) sz (wanted_is rfl g20 e53 rfl) ?_ ?_
  rotate_left 1
  · (intro w9 hC9 ρ hρ; have r54 := (hρ _).trans e54; simp [go_sem, r54] <;> with_reducible rfl)
  intro a N; have sz := N.s sz; have df := N.d df; have e0 := N.o e0; have e1 := N.o e1; have e53 := N.o e53; have e55 := N.new
  refine qk (d := 56) (v := ?_) sz (wanted_is rfl g20 e53 rfl) ?_ ?_
  rotate_left 1
  · (intro w9 hC9 ρ hρ; have r55 := (hρ _).trans e55; simp [go_sem, r55] <;> with_reducible rfl)
  intro a N; have sz := N.s sz; have df := N.d df; have e0 := N.o e0; have e1 := N.o e1; have e53 := N.o e53; have e56 := N.new
  refine qk (d := 57) (v := ?_) sz (wanted_is rfl g20 e53 rfl) ?_ ?_
  rotate_left 1
  · (intro w9 hC9 ρ hρ; have hS9 := hCK w9 hC9; have cc : w9.cell? ⟨g, o + 2, none⟩ = some (.int .i64 x2) := (HP.out _ hS9).1.2.2.1; have r56 := (hρ _).trans e56; simp [go_sem, r56, cc] <;> with_reducible rfl)
  intro a N; have sz := N.s sz; have df := N.d df; have e0 := N.o e0; have e1 := N.o e1; have e53 := N.o e53; have e57 := N.new
  refine qk (d := 58) (v := ?_) sz (wanted_is rfl g20 e53 rfl) ?_ ?_
  rotate_left 1
  · (intro w9 hC9 ρ hρ; have r1 := (hρ _).trans e1; simp [go_sem, r1] <;> with_reducible rfl)
  intro a N; have sz := N.s sz; have df := N.d df; have e0 := N.o e0; have e1 := N.o e1; have e53 := N.o e53; have e57 := N.o e57; have e58 := N.new
  refine qk (d := 59) (v := ?_) sz (wanted_is rfl g20 e53 rfl) ?_ ?_
  rotate_left 1
  · (intro w9 hC9 ρ hρ; have r58 := (hρ _).trans e58; simp [go_sem, r58] <;> with_reducible rfl)
  intro a N; have sz := N.s sz; have df := N.d df; have e0 := N.o e0; have e1 := N.o e1; have e53 := N.o e53; have e57 := N.o e57; have e59 := N.new
  refine qk (d := 60) (v := ?_) sz (wanted_is rfl g20 e53 rfl) ?_ ?_
  rotate_left 1
  · (intro w9 hC9 ρ hρ; have r59 := (hρ _).trans e59; simp [go_sem, r59] <;> with_reducible rfl)
  intro a N; have sz := N.s sz; have df := N.d df; have e0 := N.o e0; have e1 := N.o e1; have e53 := N.o e53; have e57 := N.o e57; have e60 := N.new
  refine qk (d := 61) (v := ?_) sz (wanted_is rfl g20 e53 rfl) ?_ ?_
  rotate_left 1
  · (intro w9 hC9 ρ hρ; have hS9 := hCK w9 hC9; have cc : w9.cell? ⟨g', o' + 2, none⟩ = some (.int .i64 x2) := (HP.out _ hS9).2.2.2.1; have r60 := (hρ _).trans e60; simp [go_sem, r60, cc] <;> with_reducible rfl)
  intro a N; have sz := N.s sz; have df := N.d df; have e0 := N.o e0; have e1 := N.o e1; have e53 := N.o e53; have e57 := N.o e57; have e61 := N.new
  refine qk (d := 62) (v := ?_) sz (wanted_is rfl g20 e53 rfl) ?_ ?_
  rotate_left 1
  · (intro w9 hC9 ρ hρ; have r57 := (hρ _).trans e57; have r61 := (hρ _).trans e61; simp [go_sem, r57, r61] <;> with_reducible rfl)
  intro a N; have sz := N.s sz; have df := N.d df; have e0 := N.o e0; have e1 := N.o e1; have e53 := N.o e53; have e62 := N.new
  refine qn (d := 63) (v := ?_) sz ?_ ?_
  rotate_left 1
  · (intro w9 hC9 ρ hρ; have rc : ∀ v, ρ (.const v) = v := fun v => hρ _; have r53 := (hρ _).trans e53; have r62 := (hρ _).trans e62; simp [go_sem, rc, r53, r62] <;> with_reducible rfl)
  intro a N; have sz := N.s sz; have df := N.d df; have e0 := N.o e0; have e1 := N.o e1; have e63 := N.new
  refine qn (d := 64) (v := ?_) sz ?_ ?_
  rotate_left 1
  · (intro w9 hC9 ρ hρ; have r63 := (hρ _).trans e63; simp [go_sem, r63] <;> with_reducible rfl)
  intro a N; have sz := N.s sz; have df := N.d df; have e0 := N.o e0; have e1 := N.o e1; have e64 := N.new
  refine qk (d := 65) (v := ?_) sz (wanted_is rfl g31 e64 rfl) ?_ ?_
  rotate_left 1
  · (intro w9 hC9 ρ hρ; have r0 := (hρ _).trans e0; simp [go_sem, r0] <;> with_reducible rfl)
  intro a N; have sz := N.s sz; have df := N.d df; have e0 := N.o e0; have e1 := N.o e1; have e64 := N.o e64; have e65 := N.new
  refine qk (d := 66) (v := ?_) sz (wanted_is rfl g31 e64 rfl) ?_ ?_
  rotate_left 1
  · (intro w9 hC9 ρ hρ; have r65 := (hρ _).trans e65; simp [go_sem, r65] <;> with_reducible rfl)
  intro a N; have sz := N.s sz; have df := N.d df; have e0 := N.o e0; have e1 := N.o e1; have e64 := N.o e64; have e66 := N.new
  refine qk (d := 67) (v := ?_) sz (wanted_is rfl g31 e64 rfl) ?_ ?_
  rotate_left 1
  · (intro w9 hC9 ρ hρ; have r66 := (hρ _).trans e66; simp [go_sem, r66] <;> with_reducible rfl)
  intro a N; have sz := N.s sz; have df := N.d df; have e0 := N.o e0; have e1 := N.o e1; have e64 := N.o e64; have e67 := N.new
  refine qk (d := 68) (v := ?_) sz (wanted_is rfl g31 e64 rfl) ?_ ?_
  rotate_left 1
  · (intro w9 hC9 ρ hρ; have hS9 := hCK w9 hC9; have cc : w9.cell? ⟨g, o + 3, none⟩ = some (.slice aC nC dC) := (HP.out _ hS9).1.2.2.2.1; have r67 := (hρ _).trans e67; simp [go_sem, r67, cc] <;> with_reducible rfl)
  intro a N; have sz := N.s sz; have df := N.d df; have e0 := N.o e0; have e1 := N.o e1; have e64 := N.o e64; have e68 := N.new
  refine qk (d := 69) (v := ?_) sz (wanted_is rfl g31 e64 rfl) ?_ ?_
  rotate_left 1
  · (intro w9 hC9 ρ hρ; have r68 := (hρ _).trans e68; simp [go_sem, r68] <;> with_reducible rfl)
  intro a N; have sz := N.s sz; have df := N.d df; have e0 := N.o e0; have e1 := N.o e1; have e64 := N.o e64; have e69 := N.new
  refine qk (d := 70) (v := ?_) sz (wanted_is rfl g31 e64 rfl) ?_ ?_
  rotate_left 1
  · (intro w9 hC9 ρ hρ; have r1 := (hρ _).trans e1; simp [go_sem, r1] <;> with_reducible rfl)
  intro a N; have sz := N.s sz; have df := N.d df; have e0 := N.o e0; have e1 := N.o e1; have e64 := N.o e64; have e69 := N.o e69; have e70 := N.new
  refine qk (d := 71) (v := ?_) sz (wanted_is rfl g31 e64 rfl) ?_ ?_
  rotate_left 1
  · (intro w9 hC9 ρ hρ; have r70 := (hρ _).trans e70; simp [go_sem, r70] <;> with_reducible rfl)
  intro a N; have sz := N.s sz; have df := N.d df; have e0 := N.o e0; have e1 := N.o e1; have e64 := N.o e64; have e69 := N.o e69; have e71 := N.new
  refine qk (d := 72) (v := ?_) sz (wanted_is rfl g31 e64 rfl) ?_ ?_
  rotate_left 1
  · (intro w9 hC9 ρ hρ; have r71 := (hρ _).trans e71; simp [go_sem, r71] <;> with_reducible rfl)
  intro a N; have sz := N.s sz; have df := N.d df; have e0 := N.o e0; have e1 := N.o e1; have e64 := N.o e64; have e69 := N.o e69; have e72 := N.new
  refine qk (d := 73) (v := ?_) sz (wanted_is rfl g31 e64 rfl) ?_ ?_
  rotate_left 1
  · (intro w9 hC9 ρ hρ; have hS9 := hCK w9 hC9; have cc : w9.cell? ⟨g', o' + 3, none⟩ = some (.slice bC kC eC) := (HP.out _ hS9).2.2.2.2.1; have r72 := (hρ _).trans e72; simp [go_sem, r72, cc] <;> with_reducible rfl)
  intro a N; have sz := N.s sz; have df := N.d df; have e0 := N.o e0; have e1 := N.o e1; have e64 := N.o e64; have e69 := N.o e69; have e73 := N.new
  refine qk (d := 74) (v := ?_) sz (wanted_is rfl g31 e64 rfl) ?_ ?_
  rotate_left 1
  · (intro w9 hC9 ρ hρ; have r73 := (hρ _).trans e73; simp [go_sem, r73] <;> with_reducible rfl)
  intro a N; have sz := N.s sz; have df := N.d df; have e0 := N.o e0; have e1 := N.o e1; have e64 := N.o e64; have e69 := N.o e69; have e74 := N.new
  by_cases hf3 : nC = kC
  rotate_left 1
  · as_aux_lemma =>
      have hi : ¬ (nC : Int) = (kC : Int) := by omega
      have hq : ((nC : Int) != (kC : Int)) = true := by simpa using hi
      refine qk (d := 75) (v := ?_) sz (wanted_is rfl g31 e64 rfl) ?_ ?_
      rotate_left 1
      · (intro w9 hC9 ρ hρ; have r69 := (hρ _).trans e69; have r74 := (hρ _).trans e74; simp [go_sem, r69, r74, hq] <;> with_reducible rfl)
      intro a N; have sz := N.s sz; have df := N.d df; have e0 := N.o e0; have e1 := N.o e1; have e64 := N.o e64; have e75 := N.new
      refine qn (d := 76) (v := ?_) sz ?_ ?_
      rotate_left 1
      · (intro w9 hC9 ρ hρ; have rc : ∀ v, ρ (.const v) = v := fun v => hρ _; have r64 := (hρ _).trans e64; have r75 := (hρ _).trans e75; simp [go_sem, rc, r64, r75] <;> with_reducible rfl)
      intro a N; have sz := N.s sz; have df := N.d df; have e0 := N.o e0; have e1 := N.o e1; have e76 := N.new
      refine qn (d := 77) (v := ?_) sz ?_ ?_
      rotate_left 1
      · (intro w9 hC9 ρ hρ; have r76 := (hρ _).trans e76; simp [go_sem, r76] <;> with_reducible rfl)
      intro a N; have sz := N.s sz; have df := N.d df; have e0 := N.o e0; have e1 := N.o e1; have e77 := N.new
      refine qs (d := 78) sz (wanted_is rfl g44 e77 rfl) ?_
      intro a N; have sz := N.s sz; have df := N.d df; have e0 := N.o e0; have e1 := N.o e1; have e77 := N.o e77; have e78 := N.new
      refine qs (d := 79) sz (wanted_is rfl g44 e77 rfl) ?_
      intro a N; have sz := N.s sz; have df := N.d df; have e0 := N.o e0; have e1 := N.o e1; have e77 := N.o e77; have e79 := N.new
      refine qs (d := 80) sz (wanted_is rfl g44 e77 rfl) ?_
      intro a N; have sz := N.s sz; have df := N.d df; have e0 := N.o e0; have e1 := N.o e1; have e77 := N.o e77; have e80 := N.new
      refine qs (d := 81) sz (wanted_is rfl g44 e77 rfl) ?_
      intro a N; have sz := N.s sz; have df := N.d df; have e0 := N.o e0; have e1 := N.o e1; have e77 := N.o e77; have e81 := N.new
      refine qs (d := 82) sz (wanted_is rfl g44 e77 rfl) ?_
      intro a N; have sz := N.s sz; have df := N.d df; have e0 := N.o e0; have e1 := N.o e1; have e77 := N.o e77; have e82 := N.new
      refine qs (d := 83) sz (wanted_is rfl g44 e77 rfl) ?_
      intro a N; have sz := N.s sz; have df := N.d df; have e0 := N.o e0; have e1 := N.o e1; have e77 := N.o e77; have e82 := N.o e82; have e83 := N.new
      refine qs (d := 84) sz (wanted_is rfl g44 e77 rfl) ?_
      intro a N; have sz := N.s sz; have df := N.d df; have e0 := N.o e0; have e1 := N.o e1; have e77 := N.o e77; have e82 := N.o e82; have e84 := N.new
      refine qs (d := 85) sz (wanted_is rfl g44 e77 rfl) ?_
      intro a N; have sz := N.s sz; have df := N.d df; have e0 := N.o e0; have e1 := N.o e1; have e77 := N.o e77; have e82 := N.o e82; have e85 := N.new
      refine qs (d := 86) sz (wanted_is rfl g44 e77 rfl) ?_
      intro a N; have sz := N.s sz; have df := N.d df; have e0 := N.o e0; have e1 := N.o e1; have e77 := N.o e77; have e82 := N.o e82; have e86 := N.new
      refine qs (d := 87) sz (wanted_is rfl g44 e77 rfl) ?_
      intro a N; have sz := N.s sz; have df := N.d df; have e0 := N.o e0; have e1 := N.o e1; have e77 := N.o e77; have e82 := N.o e82; have e87 := N.new
      refine qs (d := 88) sz (wanted_is rfl g44 e77 rfl) ?_
      intro a N; have sz := N.s sz; have df := N.d df; have e0 := N.o e0; have e1 := N.o e1; have e77 := N.o e77; have e88 := N.new
      refine qn (d := 89) (v := ?_) sz ?_ ?_
      rotate_left 1
      · (intro w9 hC9 ρ hρ; have rc : ∀ v, ρ (.const v) = v := fun v => hρ _; have r77 := (hρ _).trans e77; have r88 := (hρ _).trans e88; simp [go_sem, rc, r77, r88] <;> with_reducible rfl)
      intro a N; have sz := N.s sz; have df := N.d df; have e0 := N.o e0; have e1 := N.o e1; have e89 := N.new
      refine qn (d := 90) (v := ?_) sz ?_ ?_
      rotate_left 1
      · (intro w9 hC9 ρ hρ; have r89 := (hρ _).trans e89; simp [go_sem, r89] <;> with_reducible rfl)
      intro a N; have sz := N.s sz; have df := N.d df; have e0 := N.o e0; have e1 := N.o e1; have e90 := N.new
      refine qs (d := 91) sz (wanted_is rfl g57 e90 rfl) ?_
      intro a N; have sz := N.s sz; have df := N.d df; have e0 := N.o e0; have e1 := N.o e1; have e90 := N.o e90; have e91 := N.new
      refine qs (d := 92) sz (wanted_is rfl g57 e90 rfl) ?_
      intro a N; have sz := N.s sz; have df := N.d df; have e0 := N.o e0; have e1 := N.o e1; have e90 := N.o e90; have e92 := N.new
      refine qs (d := 93) sz (wanted_is rfl g57 e90 rfl) ?_
      intro a N; have sz := N.s sz; have df := N.d df; have e0 := N.o e0; have e1 := N.o e1; have e90 := N.o e90; have e93 := N.new
      refine qs (d := 94) sz (wanted_is rfl g57 e90 rfl) ?_
      intro a N; have sz := N.s sz; have df := N.d df; have e0 := N.o e0; have e1 := N.o e1; have e90 := N.o e90; have e94 := N.new
      refine qs (d := 95) sz (wanted_is rfl g57 e90 rfl) ?_
      intro a N; have sz := N.s sz; have df := N.d df; have e0 := N.o e0; have e1 := N.o e1; have e90 := N.o e90; have e95 := N.new
      refine qs (d := 96) sz (wanted_is rfl g57 e90 rfl) ?_
      intro a N; have sz := N.s sz; have df := N.d df; have e0 := N.o e0; have e1 := N.o e1; have e90 := N.o e90; have e95 := N.o e95; have e96 := N.new
      refine qs (d := 97) sz (wanted_is rfl g57 e90 rfl) ?_
      intro a N; have sz := N.s sz; have df := N.d df; have e0 := N.o e0; have e1 := N.o e1; have e90 := N.o e90; have e95 := N.o e95; have e97 := N.new
      refine qs (d := 98) sz (wanted_is rfl g57 e90 rfl) ?_
      intro a N; have sz := N.s sz; have df := N.d df; have e0 := N.o e0; have e1 := N.o e1; have e90 := N.o e90; have e95 := N.o e95; have e98 := N.new
      refine qs (d := 99) sz (wanted_is rfl g57 e90 rfl) ?_
      intro a N; have sz := N.s sz; have df := N.d df; have e0 := N.o e0; have e1 := N.o e1; have e90 := N.o e90; have e95 := N.o e95; have e99 := N.new
      refine qs (d := 100) sz (wanted_is rfl g57 e90 rfl) ?_
      intro a N; have sz := N.s sz; have df := N.d df; have e0 := N.o e0; have e1 := N.o e1; have e90 := N.o e90; have e95 := N.o e95; have e100 := N.new
      refine qs (d := 101) sz (wanted_is rfl g57 e90 rfl) ?_
      intro a N; have sz := N.s sz; have df := N.d df; have e0 := N.o e0; have e1 := N.o e1; have e90 := N.o e90; have e101 := N.new
      refine qn (d := 102) (v := ?_) sz ?_ ?_
      rotate_left 1
      · (intro w9 hC9 ρ hρ; have rc : ∀ v, ρ (.const v) = v := fun v => hρ _; have r90 := (hρ _).trans e90; have r101 := (hρ _).trans e101; simp [go_sem, rc, r90, r101] <;> with_reducible rfl)
      intro a N; have sz := N.s sz; have df := N.d df; have e0 := N.o e0; have e1 := N.o e1; have e102 := N.new
      refine qn (d := 103) (v := ?_) sz ?_ ?_
      rotate_left 1
      · (intro w9 hC9 ρ hρ; have r102 := (hρ _).trans e102; simp [go_sem, r102] <;> with_reducible rfl)
      intro a N; have sz := N.s sz; have df := N.d df; have e0 := N.o e0; have e1 := N.o e1; have e103 := N.new
      refine qs (d := 104) sz (wanted_is rfl g70 e103 rfl) ?_
      intro a N; have sz := N.s sz; have df := N.d df; have e0 := N.o e0; have e1 := N.o e1; have e103 := N.o e103; have e104 := N.new
      refine qs (d := 105) sz (wanted_is rfl g70 e103 rfl) ?_
      intro a N; have sz := N.s sz; have df := N.d df; have e0 := N.o e0; have e1 := N.o e1; have e103 := N.o e103; have e105 := N.new
      refine qs (d := 106) sz (wanted_is rfl g70 e103 rfl) ?_
      intro a N; have sz := N.s sz; have df := N.d df; have e0 := N.o e0; have e1 := N.o e1; have e103 := N.o e103; have e106 := N.new
      refine qs (d := 107) sz (wanted_is rfl g70 e103 rfl) ?_
      intro a N; have sz := N.s sz; have df := N.d df; have e0 := N.o e0; have e1 := N.o e1; have e103 := N.o e103; have e107 := N.new
      refine qs (d := 108) sz (wanted_is rfl g70 e103 rfl) ?_
      intro a N; have sz := N.s sz; have df := N.d df; have e0 := N.o e0; have e1 := N.o e1; have e103 := N.o e103; have e108 := N.new
      refine qs (d := 109) sz (wanted_is rfl g70 e103 rfl) ?_
      intro a N; have sz := N.s sz; have df := N.d df; have e0 := N.o e0; have e1 := N.o e1; have e103 := N.o e103; have e108 := N.o e108; have e109 := N.new
      refine qs (d := 110) sz (wanted_is rfl g70 e103 rfl) ?_
      intro a N; have sz := N.s sz; have df := N.d df; have e0 := N.o e0; have e1 := N.o e1; have e103 := N.o e103; have e108 := N.o e108; have e110 := N.new
      refine qs (d := 111) sz (wanted_is rfl g70 e103 rfl) ?_
      intro a N; have sz := N.s sz; have df := N.d df; have e0 := N.o e0; have e1 := N.o e1; have e103 := N.o e103; have e108 := N.o e108; have e111 := N.new
      refine qs (d := 112) sz (wanted_is rfl g70 e103 rfl) ?_
      intro a N; have sz := N.s sz; have df := N.d df; have e0 := N.o e0; have e1 := N.o e1; have e103 := N.o e103; have e108 := N.o e108; have e112 := N.new
      refine qs (d := 113) sz (wanted_is rfl g70 e103 rfl) ?_
      intro a N; have sz := N.s sz; have df := N.d df; have e0 := N.o e0; have e1 := N.o e1; have e103 := N.o e103; have e108 := N.o e108; have e113 := N.new
      refine qs (d := 114) sz (wanted_is rfl g70 e103 rfl) ?_
      intro a N; have sz := N.s sz; have df := N.d df; have e0 := N.o e0; have e1 := N.o e1; have e103 := N.o e103; have e114 := N.new
      refine qn (d := 115) (v := ?_) sz ?_ ?_
      rotate_left 1
      · (intro w9 hC9 ρ hρ; have rc : ∀ v, ρ (.const v) = v := fun v => hρ _; have r103 := (hρ _).trans e103; have r114 := (hρ _).trans e114; simp [go_sem, rc, r103, r114] <;> with_reducible rfl)
      intro a N; have sz := N.s sz; have df := N.d df; have e0 := N.o e0; have e1 := N.o e1; have e115 := N.new
      refine qn (d := 116) (v := ?_) sz ?_ ?_
      rotate_left 1
      · (intro w9 hC9 ρ hρ; have r115 := (hρ _).trans e115; simp [go_sem, r115] <;> with_reducible rfl)
      intro a N; have sz := N.s sz; have df := N.d df; have e0 := N.o e0; have e1 := N.o e1; have e116 := N.new
      refine qs (d := 117) sz (wanted_is rfl g83 e116 rfl) ?_
      intro a N; have sz := N.s sz; have df := N.d df; have e0 := N.o e0; have e1 := N.o e1; have e116 := N.o e116; have e117 := N.new
      refine qs (d := 118) sz (wanted_is rfl g83 e116 rfl) ?_
      intro a N; have sz := N.s sz; have df := N.d df; have e0 := N.o e0; have e1 := N.o e1; have e116 := N.o e116; have e118 := N.new
      refine qs (d := 119) sz (wanted_is rfl g83 e116 rfl) ?_
      intro a N; have sz := N.s sz; have df := N.d df; have e0 := N.o e0; have e1 := N.o e1; have e116 := N.o e116; have e119 := N.new
      refine qs (d := 120) sz (wanted_is rfl g83 e116 rfl) ?_
      intro a N; have sz := N.s sz; have df := N.d df; have e0 := N.o e0; have e1 := N.o e1; have e116 := N.o e116; have e120 := N.new
      refine qs (d := 121) sz (wanted_is rfl g83 e116 rfl) ?_
      intro a N; have sz := N.s sz; have df := N.d df; have e0 := N.o e0; have e1 := N.o e1; have e116 := N.o e116; have e121 := N.new
      refine qs (d := 122) sz (wanted_is rfl g83 e116 rfl) ?_
      intro a N; have sz := N.s sz; have df := N.d df; have e0 := N.o e0; have e1 := N.o e1; have e116 := N.o e116; have e121 := N.o e121; have e122 := N.new
      refine qs (d := 123) sz (wanted_is rfl g83 e116 rfl) ?_
      intro a N; have sz := N.s sz; have df := N.d df; have e0 := N.o e0; have e1 := N.o e1; have e116 := N.o e116; have e121 := N.o e121; have e123 := N.new
      refine qs (d := 124) sz (wanted_is rfl g83 e116 rfl) ?_
      intro a N; have sz := N.s sz; have df := N.d df; have e0 := N.o e0; have e1 := N.o e1; have e116 := N.o e116; have e121 := N.o e121; have e124 := N.new
      refine qs (d := 125) sz (wanted_is rfl g83 e116 rfl) ?_
      intro a N; have sz := N.s sz; have df := N.d df; have e0 := N.o e0; have e1 := N.o e1; have e116 := N.o e116; have e121 := N.o e121; have e125 := N.new
      refine qs (d := 126) sz (wanted_is rfl g83 e116 rfl) ?_
      intro a N; have sz := N.s sz; have df := N.d df; have e0 := N.o e0; have e1 := N.o e1; have e116 := N.o e116; have e121 := N.o e121; have e126 := N.new
      refine qs (d := 127) sz (wanted_is rfl g83 e116 rfl) ?_
      intro a N; have sz := N.s sz; have df := N.d df; have e0 := N.o e0; have e1 := N.o e1; have e116 := N.o e116; have e127 := N.new
      refine qn (d := 128) (v := ?_) sz ?_ ?_
      rotate_left 1
      · (intro w9 hC9 ρ hρ; have rc : ∀ v, ρ (.const v) = v := fun v => hρ _; have r116 := (hρ _).trans e116; have r127 := (hρ _).trans e127; simp [go_sem, rc, r116, r127] <;> with_reducible rfl)
      intro a N; have sz := N.s sz; have df := N.d df; have e0 := N.o e0; have e1 := N.o e1; have e128 := N.new
      refine qn (d := 129) (v := ?_) sz ?_ ?_
      rotate_left 1
      · (intro w9 hC9 ρ hρ; have r128 := (hρ _).trans e128; simp [go_sem, r128] <;> with_reducible rfl)
      intro a N; have sz := N.s sz; have df := N.d df; have e0 := N.o e0; have e1 := N.o e1; have e129 := N.new
      refine qs (d := 130) sz (wanted_is rfl g96 e129 rfl) ?_
      intro a N; have sz := N.s sz; have df := N.d df; have e0 := N.o e0; have e1 := N.o e1; have e129 := N.o e129; have e130 := N.new
      refine qs (d := 131) sz (wanted_is rfl g96 e129 rfl) ?_
      intro a N; have sz := N.s sz; have df := N.d df; have e0 := N.o e0; have e1 := N.o e1; have e129 := N.o e129; have e131 := N.new
      refine qs (d := 132) sz (wanted_is rfl g96 e129 rfl) ?_
      intro a N; have sz := N.s sz; have df := N.d df; have e0 := N.o e0; have e1 := N.o e1; have e129 := N.o e129; have e132 := N.new
      refine qs (d := 133) sz (wanted_is rfl g96 e129 rfl) ?_
      intro a N; have sz := N.s sz; have df := N.d df; have e0 := N.o e0; have e1 := N.o e1; have e129 := N.o e129; have e133 := N.new
      refine qs (d := 134) sz (wanted_is rfl g96 e129 rfl) ?_
      intro a N; have sz := N.s sz; have df := N.d df; have e0 := N.o e0; have e1 := N.o e1; have e129 := N.o e129; have e134 := N.new
      refine qs (d := 135) sz (wanted_is rfl g96 e129 rfl) ?_
      intro a N; have sz := N.s sz; have df := N.d df; have e0 := N.o e0; have e1 := N.o e1; have e129 := N.o e129; have e134 := N.o e134; have e135 := N.new
      refine qs (d := 136) sz (wanted_is rfl g96 e129 rfl) ?_
      intro a N; have sz := N.s sz; have df := N.d df; have e0 := N.o e0; have e1 := N.o e1; have e129 := N.o e129; have e134 := N.o e134; have e136 := N.new
      refine qs (d := 137) sz (wanted_is rfl g96 e129 rfl) ?_
      intro a N; have sz := N.s sz; have df := N.d df; have e0 := N.o e0; have e1 := N.o e1; have e129 := N.o e129; have e134 := N.o e134; have e137 := N.new
      refine qs (d := 138) sz (wanted_is rfl g96 e129 rfl) ?_
      intro a N; have sz := N.s sz; have df := N.d df; have e0 := N.o e0; have e1 := N.o e1; have e129 := N.o e129; have e134 := N.o e134; have e138 := N.new
      refine qs (d := 139) sz (wanted_is rfl g96 e129 rfl) ?_
      intro a N; have sz := N.s sz; have df := N.d df; have e0 := N.o e0; have e1 := N.o e1; have e129 := N.o e129; have e134 := N.o e134; have e139 := N.new
      refine qs (d := 140) sz (wanted_is rfl g96 e129 rfl) ?_
      intro a N; have sz := N.s sz; have df := N.d df; have e0 := N.o e0; have e1 := N.o e1; have e129 := N.o e129; have e140 := N.new
      refine qn (d := 141) (v := ?_) sz ?_ ?_
      rotate_left 1
      · (intro w9 hC9 ρ hρ; have rc : ∀ v, ρ (.const v) = v := fun v => hρ _; have r129 := (hρ _).trans e129; have r140 := (hρ _).trans e140; simp [go_sem, rc, r129, r140] <;> with_reducible rfl)
      intro a N; have sz := N.s sz; have df := N.d df; have e0 := N.o e0; have e1 := N.o e1; have e141 := N.new
      refine wpQuiet_nil ?_; intro w9 hC9; exact h _ _ true ⟨sz, df, e0, e1⟩ e141 ⟨fun h => (by cases h), fun h => absurd h.2.2.2.1 hf3⟩ (hCK w9 hC9)
  subst hf3
  refine qk (d := 75) (v := ?_) sz (wanted_is rfl g31 e64 rfl) ?_ ?_
  rotate_left 1
  · (intro w9 hC9 ρ hρ; have r69 := (hρ _).trans e69; have r74 := (hρ _).trans e74; simp [go_sem, r69, r74] <;> with_reducible rfl)
  intro a N; have sz := N.s sz; have df := N.d df; have e0 := N.o e0; have e1 := N.o e1; have e64 := N.o e64; have e75 := N.new
  refine qn (d := 76) (v := ?_) sz ?_ ?_
  rotate_left 1
  · (intro w9 hC9 ρ hρ; have rc : ∀ v, ρ (.const v) = v := fun v => hρ _; have r64 := (hρ _).trans e64; have r75 := (hρ _).trans e75; simp [go_sem, rc, r64, r75] <;> with_reducible rfl)
  intro a N; have sz := N.s sz; have df := N.d df; have e0 := N.o e0; have e1 := N.o e1; have e76 := N.new
  refine qn (d := 77) (v := ?_) sz ?_ ?_
  rotate_left 1
  · (intro w9 hC9 ρ hρ; have r76 := (hρ _).trans e76; simp [go_sem, r76] <;> with_reducible rfl)
  intro a N; have sz := N.s sz; have df := N.d df; have e0 := N.o e0; have e1 := N.o e1; have e77 := N.new
  refine qk (d := 78) (v := ?_) sz (wanted_is rfl g44 e77 rfl) ?_ ?_
  rotate_left 1
  · (intro w9 hC9 ρ hρ; have r0 := (hρ _).trans e0; simp [go_sem, r0] <;> with_reducible rfl)
  intro a N; have sz := N.s sz; have df := N.d df; have e0 := N.o e0; have e1 := N.o e1; have e77 := N.o e77; have e78 := N.new
  refine qk (d := 79) (v := ?_) sz (wanted_is rfl g44 e77 rfl) ?_ ?_
  rotate_left 1
  · (intro w9 hC9 ρ hρ; have r78 := (hρ _).trans e78; simp [go_sem, r78] <;> with_reducible rfl)
  intro a N; have sz := N.s sz; have df := N.d df; have e0 := N.o e0; have e1 := N.o e1; have e77 := N.o e77; have e79 := N.new
  refine qk (d := 80) (v := ?_) sz (wanted_is rfl g44 e77 rfl) ?_ ?_
  rotate_left 1
  · (intro w9 hC9 ρ hρ; have r79 := (hρ _).trans e79; simp [go_sem, r79] <;> with_reducible rfl)
  intro a N; have sz := N.s sz; have df := N.d df; have e0 := N.o e0; have e1 := N.o e1; have e77 := N.o e77; have e80 := N.new
  refine qk (d := 81) (v := ?_) sz (wanted_is rfl g44 e77 rfl) ?_ ?_
  rotate_left 1
  · (intro w9 hC9 ρ hρ; have hS9 := hCK w9 hC9; have cc : w9.cell? ⟨g, o + 4, none⟩ = some (.slice aT nT dT) := (HP.out _ hS9).1.2.2.2.2.1; have r80 := (hρ _).trans e80; simp [go_sem, r80, cc] <;> with_reducible rfl)
  intro a N; have sz := N.s sz; have df := N.d df; have e0 := N.o e0; have e1 := N.o e1; have e77 := N.o e77; have e81 := N.new
  refine qk (d := 82) (v := ?_) sz (wanted_is rfl g44 e77 rfl) ?_ ?_
  rotate_left 1
  · (intro w9 hC9 ρ hρ; have r81 := (hρ _).trans e81; simp [go_sem, r81] <;> with_reducible rfl)
  intro a N; have sz := N.s sz; have df := N.d df; have e0 := N.o e0; have e1 := N.o e1; have e77 := N.o e77; have e82 := N.new
  refine qk (d := 83) (v := ?_) sz (wanted_is rfl g44 e77 rfl) ?_ ?_
  rotate_left 1
  · (intro w9 hC9 ρ hρ; have r1 := (hρ _).trans e1; simp [go_sem, r1] <;> with_reducible rfl)
  intro a N; have sz := N.s sz; have df := N.d df; have e0 := N.o e0; have e1 := N.o e1; have e77 := N.o e77; have e82 := N.o e82; have e83 := N.new
  refine qk (d := 84) (v := ?_) sz (wanted_is rfl g44 e77 rfl) ?_ ?_
  rotate_left 1
  · (intro w9 hC9 ρ hρ; have r83 := (hρ _).trans e83; simp [go_sem, r83] <;> with_reducible rfl)
  intro a N; have sz := N.s sz; have df := N.d df; have e0 := N.o e0; have e1 := N.o e1; have e77 := N.o e77; have e82 := N.o e82; have e84 := N.new
  refine qk (d := 85) (v := ?_) sz (wanted_is rfl g44 e77 rfl) ?_ ?_
  rotate_left 1
  · (intro w9 hC9 ρ hρ; have r84 := (hρ _).trans e84; simp [go_sem, r84] <;> with_reducible rfl)
  intro a N; have sz := N.s sz; have df := N.d df; have e0 := N.o e0; have e1 := N.o e1; have e77 := N.o e77; have e82 := N.o e82; have e85 := N.new
  refine qk (d := 86) (v := ?_) sz (wanted_is rfl g44 e77 rfl) ?_ ?_
  rotate_left 1
  · (intro w9 hC9 ρ hρ; have hS9 := hCK w9 hC9; have cc : w9.cell? ⟨g', o' + 4, none⟩ = some (.slice bT kT eT) := (HP.out _ hS9).2.2.2.2.2.1; have r85 := (hρ _).trans e85; simp [go_sem, r85, cc] <;> with_reducible rfl)
  intro a N; have sz := N.s sz; have df := N.d df; have e0 := N.o e0; have e1 := N.o e1; have e77 := N.o e77; have e82 := N.o e82; have e86 := N.new
  refine qk (d := 87) (v := ?_) sz (wanted_is rfl g44 e77 rfl) ?_ ?_
  rotate_left 1
  · (intro w9 hC9 ρ hρ; have r86 := (hρ _).trans e86; simp [go_sem, r86] <;> with_reducible rfl)
  intro a N; have sz := N.s sz; have df := N.d df; have e0 := N.o e0; have e1 := N.o e1; have e77 := N.o e77; have e82 := N.o e82; have e87 := N.new
  by_cases hf4 : nT = kT
  rotate_left 1
  · as_aux_lemma =>
      have hi : ¬ (nT : Int) = (kT : Int) := by omega
      have hq : ((nT : Int) != (kT : Int)) = true := by simpa using hi
      refine qk (d := 88) (v := ?_) sz (wanted_is rfl g44 e77 rfl) ?_ ?_
      rotate_left 1
      · (intro w9 hC9 ρ hρ; have r82 := (hρ _).trans e82; have r87 := (hρ _).trans e87; simp [go_sem, r82, r87, hq] <;> with_reducible rfl)
      intro a N; have sz := N.s sz; have df := N.d df; have e0 := N.o e0; have e1 := N.o e1; have e77 := N.o e77; have e88 := N.new
      refine qn (d := 89) (v := ?_) sz ?_ ?_
      rotate_left 1
      · (intro w9 hC9 ρ hρ; have rc : ∀ v, ρ (.const v) = v := fun v => hρ _; have r77 := (hρ _).trans e77; have r88 := (hρ _).trans e88; simp [go_sem, rc, r77, r88] <;> with_reducible rfl)
      intro a N; have sz := N.s sz; have df := N.d df; have e0 := N.o e0; have e1 := N.o e1; have e89 := N.new
      refine qn (d := 90) (v := ?_) sz ?_ ?_
      rotate_left 1
      · (intro w9 hC9 ρ hρ; have r89 := (hρ _).trans e89; simp [go_sem, r89] <;> with_reducible rfl)
      intro a N; have sz := N.s sz; have df := N.d df; have e0 := N.o e0; have e1 := N.o e1; have e90 := N.new
      refine qs (d := 91) sz (wanted_is rfl g57 e90 rfl) ?_
      intro a N; have sz := N.s sz; have df := N.d df; have e0 := N.o e0; have e1 := N.o e1; have e90 := N.o e90; have e91 := N.new
      refine qs (d := 92) sz (wanted_is rfl g57 e90 rfl) ?_
      intro a N; have sz := N.s sz; have df := N.d df; have e0 := N.o e0; have e1 := N.o e1; have e90 := N.o e90; have e92 := N.new
      refine qs (d := 93) sz (wanted_is rfl g57 e90 rfl) ?_
      intro a N; have sz := N.s sz; have df := N.d df; have e0 := N.o e0; have e1 := N.o e1; have e90 := N.o e90; have e93 := N.new
      refine qs (d := 94) sz (wanted_is rfl g57 e90 rfl) ?_
      intro a N; have sz := N.s sz; have df := N.d df; have e0 := N.o e0; have e1 := N.o e1; have e90 := N.o e90; have e94 := N.new
      refine qs (d := 95) sz (wanted_is rfl g57 e90 rfl) ?_
      intro a N; have sz := N.s sz; have df := N.d df; have e0 := N.o e0; have e1 := N.o e1; have e90 := N.o e90; have e95 := N.new
      refine qs (d := 96) sz (wanted_is rfl g57 e90 rfl) ?_
      intro a N; have sz := N.s sz; have df := N.d df; have e0 := N.o e0; have e1 := N.o e1; have e90 := N.o e90; have e95 := N.o e95; have e96 := N.new
      refine qs (d := 97) sz (wanted_is rfl g57 e90 rfl) ?_
      intro a N; have sz := N.s sz; have df := N.d df; have e0 := N.o e0; have e1 := N.o e1; have e90 := N.o e90; have e95 := N.o e95; have e97 := N.new
      refine qs (d := 98) sz (wanted_is rfl g57 e90 rfl) ?_
      intro a N; have sz := N.s sz; have df := N.d df; have e0 := N.o e0; have e1 := N.o e1; have e90 := N.o e90; have e95 := N.o e95; have e98 := N.new
      refine qs (d := 99) sz (wanted_is rfl g57 e90 rfl) ?_
      intro a N; have sz := N.s sz; have df := N.d df; have e0 := N.o e0; have e1 := N.o e1; have e90 := N.o e90; have e95 := N.o e95; have e99 := N.new
      refine qs (d := 100) sz (wanted_is rfl g57 e90 rfl) ?_
      intro a N; have sz := N.s sz; have df := N.d df; have e0 := N.o e0; have e1 := N.o e1; have e90 := N.o e90; have e95 := N.o e95; have e100 := N.new
      refine qs (d := 101) sz (wanted_is rfl g57 e90 rfl) ?_
      intro a N; have sz := N.s sz; have df := N.d df; have e0 := N.o e0; have e1 := N.o e1; have e90 := N.o e90; have e101 := N.new
      refine qn (d := 102) (v := ?_) sz ?_ ?_
      rotate_left 1
      · (intro w9 hC9 ρ hρ; have rc : ∀ v, ρ (.const v) = v := fun v => hρ _; have r90 := (hρ _).trans e90; have r101 := (hρ _).trans e101; simp [go_sem, rc, r90, r101] <;> with_reducible rfl)
      intro a N; have sz := N.s sz; have df := N.d df; have e0 := N.o e0; have e1 := N.o e1; have e102 := N.new
      refine qn (d := 103) (v := ?_) sz ?_ ?_
      rotate_left 1
      · (intro w9 hC9 ρ hρ; have r102 := (hρ _).trans e102; simp [go_sem, r102] <;> with_reducible rfl)
      intro a N; have sz := N.s sz; have df := N.d df; have e0 := N.o e0; have e1 := N.o e1; have e103 := N.new
      refine qs (d := 104) sz (wanted_is rfl g70 e103 rfl) ?_
      intro a N; have sz := N.s sz; have df := N.d df; have e0 := N.o e0; have e1 := N.o e1; have e103 := N.o e103; have e104 := N.new
      refine qs (d := 105) sz (wanted_is rfl g70 e103 rfl) ?_
      intro a N; have sz := N.s sz; have df := N.d df; have e0 := N.o e0; have e1 := N.o e1; have e103 := N.o e103; have e105 := N.new
      refine qs (d := 106) sz (wanted_is rfl g70 e103 rfl) ?_
      intro a N; have sz := N.s sz; have df := N.d df; have e0 := N.o e0; have e1 := N.o e1; have e103 := N.o e103; have e106 := N.new
      refine qs (d := 107) sz (wanted_is rfl g70 e103 rfl) ?_
      intro a N; have sz := N.s sz; have df := N.d df; have e0 := N.o e0; have e1 := N.o e1; have e103 := N.o e103; have e107 := N.new
      refine qs (d := 108) sz (wanted_is rfl g70 e103 rfl) ?_
      intro a N; have sz := N.s sz; have df := N.d df; have e0 := N.o e0; have e1 := N.o e1; have e103 := N.o e103; have e108 := N.new
      refine qs (d := 109) sz (wanted_is rfl g70 e103 rfl) ?_
      intro a N; have sz := N.s sz; have df := N.d df; have e0 := N.o e0; have e1 := N.o e1; have e103 := N.o e103; have e108 := N.o e108; have e109 := N.new
      refine qs (d := 110) sz (wanted_is rfl g70 e103 rfl) ?_
      intro a N; have sz := N.s sz; have df := N.d df; have e0 := N.o e0; have e1 := N.o e1; have e103 := N.o e103; have e108 := N.o e108; have e110 := N.new
      refine qs (d := 111) sz (wanted_is rfl g70 e103 rfl) ?_
      intro a N; have sz := N.s sz; have df := N.d df; have e0 := N.o e0; have e1 := N.o e1; have e103 := N.o e103; have e108 := N.o e108; have e111 := N.new
      refine qs (d := 112) sz (wanted_is rfl g70 e103 rfl) ?_
      intro a N; have sz := N.s sz; have df := N.d df; have e0 := N.o e0; have e1 := N.o e1; have e103 := N.o e103; have e108 := N.o e108; have e112 := N.new
      refine qs (d := 113) sz (wanted_is rfl g70 e103 rfl) ?_
      intro a N; have sz := N.s sz; have df := N.d df; have e0 := N.o e0; have e1 := N.o e1; have e103 := N.o e103; have e108 := N.o e108; have e113 := N.new
      refine qs (d := 114) sz (wanted_is rfl g70 e103 rfl) ?_
      intro a N; have sz := N.s sz; have df := N.d df; have e0 := N.o e0; have e1 := N.o e1; have e103 := N.o e103; have e114 := N.new
      refine qn (d := 115) (v := ?_) sz ?_ ?_
      rotate_left 1
      · (intro w9 hC9 ρ hρ; have rc : ∀ v, ρ (.const v) = v := fun v => hρ _; have r103 := (hρ _).trans e103; have r114 := (hρ _).trans e114; simp [go_sem, rc, r103, r114] <;> with_reducible rfl)
      intro a N; have sz := N.s sz; have df := N.d df; have e0 := N.o e0; have e1 := N.o e1; have e115 := N.new
      refine qn (d := 116) (v := ?_) sz ?_ ?_
      rotate_left 1
      · (intro w9 hC9 ρ hρ; have r115 := (hρ _).trans e115; simp [go_sem, r115] <;> with_reducible rfl)
      intro a N; have sz := N.s sz; have df := N.d df; have e0 := N.o e0; have e1 := N.o e1; have e116 := N.new
      refine qs (d := 117) sz (wanted_is rfl g83 e116 rfl) ?_
      intro a N; have sz := N.s sz; have df := N.d df; have e0 := N.o e0; have e1 := N.o e1; have e116 := N.o e116; have e117 := N.new
      refine qs (d := 118) sz (wanted_is rfl g83 e116 rfl) ?_
      intro a N; have sz := N.s sz; have df := N.d df; have e0 := N.o e0; have e1 := N.o e1; have e116 := N.o e116; have e118 := N.new
      refine qs (d := 119) sz (wanted_is rfl g83 e116 rfl) ?_
      intro a N; have sz := N.s sz; have df := N.d df; have e0 := N.o e0; have e1 := N.o e1; have e116 := N.o e116; have e119 := N.new
      refine qs (d := 120) sz (wanted_is rfl g83 e116 rfl) ?_
      intro a N; have sz := N.s sz; have df := N.d df; have e0 := N.o e0; have e1 := N.o e1; have e116 := N.o e116; have e120 := N.new
      refine qs (d := 121) sz (wanted_is rfl g83 e116 rfl) ?_
      intro a N; have sz := N.s sz; have df := N.d df; have e0 := N.o e0; have e1 := N.o e1; have e116 := N.o e116; have e121 := N.new
      refine qs (d := 122) sz (wanted_is rfl g83 e116 rfl) ?_
      intro a N; have sz := N.s sz; have df := N.d df; have e0 := N.o e0; have e1 := N.o e1; have e116 := N.o e116; have e121 := N.o e121; have e122 := N.new
      refine qs (d := 123) sz (wanted_is rfl g83 e116 rfl) ?_
      intro a N; have sz := N.s sz; have df := N.d df; have e0 := N.o e0; have e1 := N.o e1; have e116 := N.o e116; have e121 := N.o e121; have e123 := N.new
      refine qs (d := 124) sz (wanted_is rfl g83 e116 rfl) ?_
      intro a N; have sz := N.s sz; have df := N.d df; have e0 := N.o e0; have e1 := N.o e1; have e116 := N.o e116; have e121 := N.o e121; have e124 := N.new
      refine qs (d := 125) sz (wanted_is rfl g83 e116 rfl) ?_
      intro a N; have sz := N.s sz; have df := N.d df; have e0 := N.o e0; have e1 := N.o e1; have e116 := N.o e116; have e121 := N.o e121; have e125 := N.new
      refine qs (d := 126) sz (wanted_is rfl g83 e116 rfl) ?_
      intro a N; have sz := N.s sz; have df := N.d df; have e0 := N.o e0; have e1 := N.o e1; have e116 := N.o e116; have e121 := N.o e121; have e126 := N.new
      refine qs (d := 127) sz (wanted_is rfl g83 e116 rfl) ?_
      intro a N; have sz := N.s sz; have df := N.d df; have e0 := N.o e0; have e1 := N.o e1; have e116 := N.o e116; have e127 := N.new
      refine qn (d := 128) (v := ?_) sz ?_ ?_
      rotate_left 1
      · (intro w9 hC9 ρ hρ; have rc : ∀ v, ρ (.const v) = v := fun v => hρ _; have r116 := (hρ _).trans e116; have r127 := (hρ _).trans e127; simp [go_sem, rc, r116, r127] <;> with_reducible rfl)
      intro a N; have sz := N.s sz; have df := N.d df; have e0 := N.o e0; have e1 := N.o e1; have e128 := N.new
      refine qn (d := 129) (v := ?_) sz ?_ ?_
      rotate_left 1
      · (intro w9 hC9 ρ hρ; have r128 := (hρ _).trans e128; simp [go_sem, r128] <;> with_reducible rfl)
      intro a N; have sz := N.s sz; have df := N.d df; have e0 := N.o e0; have e1 := N.o e1; have e129 := N.new
      refine qs (d := 130) sz (wanted_is rfl g96 e129 rfl) ?_
      intro a N; have sz := N.s sz; have df := N.d df; have e0 := N.o e0; have e1 := N.o e1; have e129 := N.o e129; have e130 := N.new
      refine qs (d := 131) sz (wanted_is rfl g96 e129 rfl) ?_
      intro a N; have sz := N.s sz; have df := N.d df; have e0 := N.o e0; have e1 := N.o e1; have e129 := N.o e129; have e131 := N.new
      refine qs (d := 132) sz (wanted_is rfl g96 e129 rfl) ?_
      intro a N; have sz := N.s sz; have df := N.d df; have e0 := N.o e0; have e1 := N.o e1; have e129 := N.o e129; have e132 := N.new
      refine qs (d := 133) sz (wanted_is rfl g96 e129 rfl) ?_
      intro a N; have sz := N.s sz; have df := N.d df; have e0 := N.o e0; have e1 := N.o e1; have e129 := N.o e129; have e133 := N.new
      refine qs (d := 134) sz (wanted_is rfl g96 e129 rfl) ?_
      intro a N; have sz := N.s sz; have df := N.d df; have e0 := N.o e0; have e1 := N.o e1; have e129 := N.o e129; have e134 := N.new
      refine qs (d := 135) sz (wanted_is rfl g96 e129 rfl) ?_
      intro a N; have sz := N.s sz; have df := N.d df; have e0 := N.o e0; have e1 := N.o e1; have e129 := N.o e129; have e134 := N.o e134; have e135 := N.new
      refine qs (d := 136) sz (wanted_is rfl g96 e129 rfl) ?_
      intro a N; have sz := N.s sz; have df := N.d df; have e0 := N.o e0; have e1 := N.o e1; have e129 := N.o e129; have e134 := N.o e134; have e136 := N.new
      refine qs (d := 137) sz (wanted_is rfl g96 e129 rfl) ?_
      intro a N; have sz := N.s sz; have df := N.d df; have e0 := N.o e0; have e1 := N.o e1; have e129 := N.o e129; have e134 := N.o e134; have e137 := N.new
      refine qs (d := 138) sz (wanted_is rfl g96 e129 rfl) ?_
      intro a N; have sz := N.s sz; have df := N.d df; have e0 := N.o e0; have e1 := N.o e1; have e129 := N.o e129; have e134 := N.o e134; have e138 := N.new
      refine qs (d := 139) sz (wanted_is rfl g96 e129 rfl) ?_
      intro a N; have sz := N.s sz; have df := N.d df; have e0 := N.o e0; have e1 := N.o e1; have e129 := N.o e129; have e134 := N.o e134; have e139 := N.new
      refine qs (d := 140) sz (wanted_is rfl g96 e129 rfl) ?_
      intro a N; have sz := N.s sz; have df := N.d df; have e0 := N.o e0; have e1 := N.o e1; have e129 := N.o e129; have e140 := N.new
      refine qn (d := 141) (v := ?_) sz ?_ ?_
      rotate_left 1
      · (intro w9 hC9 ρ hρ; have rc : ∀ v, ρ (.const v) = v := fun v => hρ _; have r129 := (hρ _).trans e129; have r140 := (hρ _).trans e140; simp [go_sem, rc, r129, r140] <;> with_reducible rfl)
      intro a N; have sz := N.s sz; have df := N.d df; have e0 := N.o e0; have e1 := N.o e1; have e141 := N.new
      refine wpQuiet_nil ?_; intro w9 hC9; exact h _ _ true ⟨sz, df, e0, e1⟩ e141 ⟨fun h => (by cases h), fun h => absurd h.2.2.2.2.1 hf4⟩ (hCK w9 hC9)
  subst hf4
  refine qk (d := 88) (v := ?_) sz (wanted_is rfl g44 e77 rfl) ?_ ?_
  rotate_left 1
  · (intro w9 hC9 ρ hρ; have r82 := (hρ _).trans e82; have r87 := (hρ _).trans e87; simp [go_sem, r82, r87] <;> with_reducible rfl)
  intro a N; have sz := N.s sz; have df := N.d df; have e0 := N.o e0; have e1 := N.o e1; have e77 := N.o e77; have e88 := N.new
  refine qn (d := 89) (v := ?_) sz ?_ ?_
  rotate_left 1
  · (intro w9 hC9 ρ hρ; have rc : ∀ v, ρ (.const v) = v := fun v => hρ _; have r77 := (hρ _).trans e77; have r88 := (hρ _).trans e88; simp [go_sem, rc, r77, r88] <;> with_reducible rfl)
  intro a N; have sz := N.s sz; have df := N.d df; have e0 := N.o e0; have e1 := N.o e1; have e89 := N.new
  refine qn (d := 90) (v := ?_) sz ?_ ?_
  rotate_left 1
  · (intro w9 hC9 ρ hρ; have r89 := (hρ _).trans e89; simp [go_sem, r89] <;> with_reducible rfl)
  intro a N; have sz := N.s sz; have df := N.d df; have e0 := N.o e0; have e1 := N.o e1; have e90 := N.new
  refine qk (d := 91) (v := ?_) sz (wanted_is rfl g57 e90 rfl) ?_ ?_
  rotate_left 1
  · (intro w9 hC9 ρ hρ; have r0 := (hρ _).trans e0; simp [go_sem, r0] <;> with_reducible rfl)
  intro a N; have sz := N.s sz; have df := N.d df; have e0 := N.o e0; have e1 := N.o e1; have e90 := N.o e90; have e91 := N.new
  refine qk (d := 92) (v := ?_) sz (wanted_is rfl g57 e90 rfl) ?_ ?_
  rotate_left 1
  · (intro w9 hC9 ρ hρ; have r91 := (hρ _).trans e91; simp [go_sem, r91] <;> with_reducible rfl)
  intro a N; have sz := N.s sz; have df := N.d df; have e0 := N.o e0; have e1 := N.o e1; have e90 := N.o e90; have e92 := N.new
  refine qk (d := 93) (v := ?_) sz (wanted_is rfl g57 e90 rfl) ?_ ?_
  rotate_left 1
  · (intro w9 hC9 ρ hρ; have r92 := (hρ _).trans e92; simp [go_sem, r92] <;> with_reducible rfl)
  intro a N; have sz := N.s sz; have df := N.d df; have e0 := N.o e0; have e1 := N.o e1; have e90 := N.o e90; have e93 := N.new
  refine qk (d := 94) (v := ?_) sz (wanted_is rfl g57 e90 rfl) ?_ ?_
  rotate_left 1
  · (intro w9 hC9 ρ hρ; have hS9 := hCK w9 hC9; have cc : w9.cell? ⟨g, o + 5, none⟩ = some (.slice aM nM dM) := (HP.out _ hS9).1.2.2.2.2.2.1; have r93 := (hρ _).trans e93; simp [go_sem, r93, cc] <;> with_reducible rfl)
  intro a N; have sz := N.s sz; have df := N.d df; have e0 := N.o e0; have e1 := N.o e1; have e90 := N.o e90; have e94 := N.new
  refine qk (d := 95) (v := ?_) sz (wanted_is rfl g57 e90 rfl) ?_ ?_
  rotate_left 1
  · (intro w9 hC9 ρ hρ; have r94 := (hρ _).trans e94; simp [go_sem, r94] <;> with_reducible rfl)
  intro a N; have sz := N.s sz; have df := N.d df; have e0 := N.o e0; have e1 := N.o e1; have e90 := N.o e90; have e95 := N.new
  refine qk (d := 96) (v := ?_) sz (wanted_is rfl g57 e90 rfl) ?_ ?_
  rotate_left 1
  · (intro w9 hC9 ρ hρ; have r1 := (hρ _).trans e1; simp [go_sem, r1] <;> with_reducible rfl)
  intro a N; have sz := N.s sz; have df := N.d df; have e0 := N.o e0; have e1 := N.o e1; have e90 := N.o e90; have e95 := N.o e95; have e96 := N.new
  refine qk (d := 97) (v := ?_) sz (wanted_is rfl g57 e90 rfl) ?_ ?_
  rotate_left 1
  · (intro w9 hC9 ρ hρ; have r96 := (hρ _).trans e96; simp [go_sem, r96] <;> with_reducible rfl)
  intro a N; have sz := N.s sz; have df := N.d df; have e0 := N.o e0; have e1 := N.o e1; have e90 := N.o e90; have e95 := N.o e95; have e97 := N.new
  refine qk (d := 98) (v := ?_) sz (wanted_is rfl g57 e90 rfl) ?_ ?_
  rotate_left 1
  · (intro w9 hC9 ρ hρ; have r97 := (hρ _).trans e97; simp [go_sem, r97] <;> with_reducible rfl)
  intro a N; have sz := N.s sz; have df := N.d df; have e0 := N.o e0; have e1 := N.o e1; have e90 := N.o e90; have e95 := N.o e95; have e98 := N.new
  refine qk (d := 99) (v := ?_) sz (wanted_is rfl g57 e90 rfl) ?_ ?_
  rotate_left 1
  · (intro w9 hC9 ρ hρ; have hS9 := hCK w9 hC9; have cc : w9.cell? ⟨g', o' + 5, none⟩ = some (.slice bM kM eM) := (HP.out _ hS9).2.2.2.2.2.2.1; have r98 := (hρ _).trans e98; simp [go_sem, r98, cc] <;> with_reducible rfl)
  intro a N; have sz := N.s sz; have df := N.d df; have e0 := N.o e0; have e1 := N.o e1; have e90 := N.o e90; have e95 := N.o e95; have e99 := N.new
  refine qk (d := 100) (v := ?_) sz (wanted_is rfl g57 e90 rfl) ?_ ?_
  rotate_left 1
  · (intro w9 hC9 ρ hρ; have r99 := (hρ _).trans e99; simp [go_sem, r99] <;> with_reducible rfl)
  intro a N; have sz := N.s sz; have df := N.d df; have e0 := N.o e0; have e1 := N.o e1; have e90 := N.o e90; have e95 := N.o e95; have e100 := N.new
  by_cases hf5 : nM = kM
  rotate_left 1
  · as_aux_lemma =>
      have hi : ¬ (nM : Int) = (kM : Int) := by omega
      have hq : ((nM : Int) != (kM : Int)) = true := by simpa using hi
      refine qk (d := 101) (v := ?_) sz (wanted_is rfl g57 e90 rfl) ?_ ?_
      rotate_left 1
      · (intro w9 hC9 ρ hρ; have r95 := (hρ _).trans e95; have r100 := (hρ _).trans e100; simp [go_sem, r95, r100, hq] <;> with_reducible rfl)
      intro a N; have sz := N.s sz; have df := N.d df; have e0 := N.o e0; have e1 := N.o e1; have e90 := N.o e90; have e101 := N.new
      refine qn (d := 102) (v := ?_) sz ?_ ?_
      rotate_left 1
      · (intro w9 hC9 ρ hρ; have rc : ∀ v, ρ (.const v) = v := fun v => hρ _; have r90 := (hρ _).trans e90; have r101 := (hρ _).trans e101; simp [go_sem, rc, r90, r101] <;> with_reducible rfl)
      intro a N; have sz := N.s sz; have df := N.d df; have e0 := N.o e0; have e1 := N.o e1; have e102 := N.new
      refine qn (d := 103) (v := ?_) sz ?_ ?_
      rotate_left 1
      · (intro w9 hC9 ρ hρ; have r102 := (hρ _).trans e102; simp [go_sem, r102] <;> with_reducible rfl)
      intro a N; have sz := N.s sz; have df := N.d df; have e0 := N.o e0; have e1 := N.o e1; have e103 := N.new
      refine qs (d := 104) sz (wanted_is rfl g70 e103 rfl) ?_
      intro a N; have sz := N.s sz; have df := N.d df; have e0 := N.o e0; have e1 := N.o e1; have e103 := N.o e103; have e104 := N.new
      refine qs (d := 105) sz (wanted_is rfl g70 e103 rfl) ?_
      intro a N; have sz := N.s sz; have df := N.d df; have e0 := N.o e0; have e1 := N.o e1; have e103 := N.o e103; have e105 := N.new
      refine qs (d := 106) sz (wanted_is rfl g70 e103 rfl) ?_
      intro a N; have sz := N.s sz; have df := N.d df; have e0 := N.o e0; have e1 := N.o e1; have e103 := N.o e103; have e106 := N.new
      refine qs (d := 107) sz (wanted_is rfl g70 e103 rfl) ?_
      intro a N; have sz := N.s sz; have df := N.d df; have e0 := N.o e0; have e1 := N.o e1; have e103 := N.o e103; have e107 := N.new
      refine qs (d := 108) sz (wanted_is rfl g70 e103 rfl) ?_
      intro a N; have sz := N.s sz; have df := N.d df; have e0 := N.o e0; have e1 := N.o e1; have e103 := N.o e103; have e108 := N.new
      refine qs (d := 109) sz (wanted_is rfl g70 e103 rfl) ?_
      intro a N; have sz := N.s sz; have df := N.d df; have e0 := N.o e0; have e1 := N.o e1; have e103 := N.o e103; have e108 := N.o e108; have e109 := N.new
      refine qs (d := 110) sz (wanted_is rfl g70 e103 rfl) ?_
      intro a N; have sz := N.s sz; have df := N.d df; have e0 := N.o e0; have e1 := N.o e1; have e103 := N.o e103; have e108 := N.o e108; have e110 := N.new
      refine qs (d := 111) sz (wanted_is rfl g70 e103 rfl) ?_
      intro a N; have sz := N.s sz; have df := N.d df; have e0 := N.o e0; have e1 := N.o e1; have e103 := N.o e103; have e108 := N.o e108; have e111 := N.new
      refine qs (d := 112) sz (wanted_is rfl g70 e103 rfl) ?_
      intro a N; have sz := N.s sz; have df := N.d df; have e0 := N.o e0; have e1 := N.o e1; have e103 := N.o e103; have e108 := N.o e108; have e112 := N.new
      refine qs (d := 113) sz (wanted_is rfl g70 e103 rfl) ?_
      intro a N; have sz := N.s sz; have df := N.d df; have e0 := N.o e0; have e1 := N.o e1; have e103 := N.o e103; have e108 := N.o e108; have e113 := N.new
      refine qs (d := 114) sz (wanted_is rfl g70 e103 rfl) ?_
      intro a N; have sz := N.s sz; have df := N.d df; have e0 := N.o e0; have e1 := N.o e1; have e103 := N.o e103; have e114 := N.new
      refine qn (d := 115) (v := ?_) sz ?_ ?_
      rotate_left 1
      · (intro w9 hC9 ρ hρ; have rc : ∀ v, ρ (.const v) = v := fun v => hρ _; have r103 := (hρ _).trans e103; have r114 := (hρ _).trans e114; simp [go_sem, rc, r103, r114] <;> with_reducible rfl)
      intro a N; have sz := N.s sz; have df := N.d df; have e0 := N.o e0; have e1 := N.o e1; have e115 := N.new
      refine qn (d := 116) (v := ?_) sz ?_ ?_
      rotate_left 1
      · (intro w9 hC9 ρ hρ; have r115 := (hρ _).trans e115; simp [go_sem, r115] <;> with_reducible rfl)
      intro a N; have sz := N.s sz; have df := N.d df; have e0 := N.o e0; have e1 := N.o e1; have e116 := N.new
      refine qs (d := 117) sz (wanted_is rfl g83 e116 rfl) ?_
      intro a N; have sz := N.s sz; have df := N.d df; have e0 := N.o e0; have e1 := N.o e1; have e116 := N.o e116; have e117 := N.new
      refine qs (d := 118) sz (wanted_is rfl g83 e116 rfl) ?_
      intro a N; have sz := N.s sz; have df := N.d df; have e0 := N.o e0; have e1 := N.o e1; have e116 := N.o e116; have e118 := N.new
      refine qs (d := 119) sz (wanted_is rfl g83 e116 rfl) ?_
      intro a N; have sz := N.s sz; have df := N.d df; have e0 := N.o e0; have e1 := N.o e1; have e116 := N.o e116; have e119 := N.new
      refine qs (d := 120) sz (wanted_is rfl g83 e116 rfl) ?_
      intro a N; have sz := N.s sz; have df := N.d df; have e0 := N.o e0; have e1 := N.o e1; have e116 := N.o e116; have e120 := N.new
      refine qs (d := 121) sz (wanted_is rfl g83 e116 rfl) ?_
      intro a N; have sz := N.s sz; have df := N.d df; have e0 := N.o e0; have e1 := N.o e1; have e116 := N.o e116; have e121 := N.new
      refine qs (d := 122) sz (wanted_is rfl g83 e116 rfl) ?_
      intro a N; have sz := N.s sz; have df := N.d df; have e0 := N.o e0; have e1 := N.o e1; have e116 := N.o e116; have e121 := N.o e121; have e122 := N.new
      refine qs (d := 123) sz (wanted_is rfl g83 e116 rfl) ?_
      intro a N; have sz := N.s sz; have df := N.d df; have e0 := N.o e0; have e1 := N.o e1; have e116 := N.o e116; have e121 := N.o e121; have e123 := N.new
      refine qs (d := 124) sz (wanted_is rfl g83 e116 rfl) ?_
      intro a N; have sz := N.s sz; have df := N.d df; have e0 := N.o e0; have e1 := N.o e1; have e116 := N.o e116; have e121 := N.o e121; have e124 := N.new
      refine qs (d := 125) sz (wanted_is rfl g83 e116 rfl) ?_
      intro a N; have sz := N.s sz; have df := N.d df; have e0 := N.o e0; have e1 := N.o e1; have e116 := N.o e116; have e121 := N.o e121; have e125 := N.new
      refine qs (d := 126) sz (wanted_is rfl g83 e116 rfl) ?_
      intro a N; have sz := N.s sz; have df := N.d df; have e0 := N.o e0; have e1 := N.o e1; have e116 := N.o e116; have e121 := N.o e121; have e126 := N.new
      refine qs (d := 127) sz (wanted_is rfl g83 e116 rfl) ?_
      intro a N; have sz := N.s sz; have df := N.d df; have e0 := N.o e0; have e1 := N.o e1; have e116 := N.o e116; have e127 := N.new
      refine qn (d := 128) (v := ?_) sz ?_ ?_
      rotate_left 1
      · (intro w9 hC9 ρ hρ; have rc : ∀ v, ρ (.const v) = v := fun v => hρ _; have r116 := (hρ _).trans e116; have r127 := (hρ _).trans e127; simp [go_sem, rc, r116, r127] <;> with_reducible rfl)
      intro a N; have sz := N.s sz; have df := N.d df; have e0 := N.o e0; have e1 := N.o e1; have e128 := N.new
      refine qn (d := 129) (v := ?_) sz ?_ ?_
      rotate_left 1
      · (intro w9 hC9 ρ hρ; have r128 := (hρ _).trans e128; simp [go_sem, r128] <;> with_reducible rfl)
      intro a N; have sz := N.s sz; have df := N.d df; have e0 := N.o e0; have e1 := N.o e1; have e129 := N.new
      refine qs (d := 130) sz (wanted_is rfl g96 e129 rfl) ?_
      intro a N; have sz := N.s sz; have df := N.d df; have e0 := N.o e0; have e1 := N.o e1; have e129 := N.o e129; have e130 := N.new
      refine qs (d := 131) sz (wanted_is rfl g96 e129 rfl) ?_
      intro a N; have sz := N.s sz; have df := N.d df; have e0 := N.o e0; have e1 := N.o e1; have e129 := N.o e129; have e131 := N.new
      refine qs (d := 132) sz (wanted_is rfl g96 e129 rfl) ?_
      intro a N; have sz := N.s sz; have df := N.d df; have e0 := N.o e0; have e1 := N.o e1; have e129 := N.o e129; have e132 := N.new
      refine qs (d := 133) sz (wanted_is rfl g96 e129 rfl) ?_
      intro a N; have sz := N.s sz; have df := N.d df; have e0 := N.o e0; have e1 := N.o e1; have e129 := N.o e129; have e133 := N.new
      refine qs (d := 134) sz (wanted_is rfl g96 e129 rfl) ?_
      intro a N; have sz := N.s sz; have df := N.d df; have e0 := N.o e0; have e1 := N.o e1; have e129 := N.o e129; have e134 := N.new
      refine qs (d := 135) sz (wanted_is rfl g96 e129 rfl) ?_
      intro a N; have sz := N.s sz; have df := N.d df; have e0 := N.o e0; have e1 := N.o e1; have e129 := N.o e129; have e134 := N.o e134; have e135 := N.new
      refine qs (d := 136) sz (wanted_is rfl g96 e129 rfl) ?_
      intro a N; have sz := N.s sz; have df := N.d df; have e0 := N.o e0; have e1 := N.o e1; have e129 := N.o e129; have e134 := N.o e134; have e136 := N.new
      refine qs (d := 137) sz (wanted_is rfl g96 e129 rfl) ?_
      intro a N; have sz := N.s sz; have df := N.d df; have e0 := N.o e0; have e1 := N.o e1; have e129 := N.o e129; have e134 := N.o e134; have e137 := N.new
      refine qs (d := 138) sz (wanted_is rfl g96 e129 rfl) ?_
      intro a N; have sz := N.s sz; have df := N.d df; have e0 := N.o e0; have e1 := N.o e1; have e129 := N.o e129; have e134 := N.o e134; have e138 := N.new
      refine qs (d := 139) sz (wanted_is rfl g96 e129 rfl) ?_
      intro a N; have sz := N.s sz; have df := N.d df; have e0 := N.o e0; have e1 := N.o e1; have e129 := N.o e129; have e134 := N.o e134; have e139 := N.new
      refine qs (d := 140) sz (wanted_is rfl g96 e129 rfl) ?_
      intro a N; have sz := N.s sz; have df := N.d df; have e0 := N.o e0; have e1 := N.o e1; have e129 := N.o e129; have e140 := N.new
      refine qn (d := 141) (v := ?_) sz ?_ ?_
      rotate_left 1
      · (intro w9 hC9 ρ hρ; have rc : ∀ v, ρ (.const v) = v := fun v => hρ _; have r129 := (hρ _).trans e129; have r140 := (hρ _).trans e140; simp [go_sem, rc, r129, r140] <;> with_reducible rfl)
      intro a N; have sz := N.s sz; have df := N.d df; have e0 := N.o e0; have e1 := N.o e1; have e141 := N.new
      refine wpQuiet_nil ?_; intro w9 hC9; exact h _ _ true ⟨sz, df, e0, e1⟩ e141 ⟨fun h => (by cases h), fun h => absurd h.2.2.2.2.2.1 hf5⟩ (hCK w9 hC9)
  subst hf5
  refine qk (d := 101) (v := ?_) sz (wanted_is rfl g57 e90 rfl) ?_ ?_
  rotate_left 1
  · (intro w9 hC9 ρ hρ; have r95 := (hρ _).trans e95; have r100 := (hρ _).trans e100; simp [go_sem, r95, r100] <;> with_reducible rfl)
  intro a N; have sz := N.s sz; have df := N.d df; have e0 := N.o e0; have e1 := N.o e1; have e90 := N.o e90; have e101 := N.new
  refine qn (d := 102) (v := ?_) sz ?_ ?_
  rotate_left 1
  · (intro w9 hC9 ρ hρ; have rc : ∀ v, ρ (.const v) = v := fun v => hρ _; have r90 := (hρ _).trans e90; have r101 := (hρ _).trans e101; simp [go_sem, rc, r90, r101] <;> with_reducible rfl)
  intro a N; have sz := N.s sz; have df := N.d df; have e0 := N.o e0; have e1 := N.o e1; have e102 := N.new
  refine qn (d := 103) (v := ?_) sz ?_ ?_
  rotate_left 1
  · (intro w9 hC9 ρ hρ; have r102 := (hρ _).trans e102; simp [go_sem, r102] <;> with_reducible rfl)
  intro a N; have sz := N.s sz; have df := N.d df; have e0 := N.o e0; have e1 := N.o e1; have e103 := N.new
  refine qk (d := 104) (v := ?_) sz (wanted_is rfl g70 e103 rfl) ?_ ?_
  rotate_left 1
  · (intro w9 hC9 ρ hρ; have r0 := (hρ _).trans e0; simp [go_sem, r0] <;> with_reducible rfl)
  intro a N; have sz := N.s sz; have df := N.d df; have e0 := N.o e0; have e1 := N.o e1; have e103 := N.o e103; have e104 := N.new
  refine qk (d := 105) (v := ?_) sz (wanted_is rfl g70 e103 rfl) ?_ ?_
  rotate_left 1
  · (intro w9 hC9 ρ hρ; have r104 := (hρ _).trans e104; simp [go_sem, r104] <;> with_reducible rfl)
  intro a N; have sz := N.s sz; have df := N.d df; have e0 := N.o e0; have e1 := N.o e1; have e103 := N.o e103; have e105 := N.new
  refine qk (d := 106) (v := ?_) sz (wanted_is rfl g70 e103 rfl) ?_ ?_
  rotate_left 1
  · (intro w9 hC9 ρ hρ; have r105 := (hρ _).trans e105; simp [go_sem, r105] <;> with_reducible rfl)
  intro a N; have sz := N.s sz; have df := N.d df; have e0 := N.o e0; have e1 := N.o e1; have e103 := N.o e103; have e106 := N.new
  refine qk (d := 107) (v := ?_) sz (wanted_is rfl g70 e103 rfl) ?_ ?_
  rotate_left 1
  · (intro w9 hC9 ρ hρ; have hS9 := hCK w9 hC9; have cc : w9.cell? ⟨g, o + 6, none⟩ = some (.slice aH nH dH) := (HP.out _ hS9).1.2.2.2.2.2.2.1; have r106 := (hρ _).trans e106; simp [go_sem, r106, cc] <;> with_reducible rfl)
  intro a N; have sz := N.s sz; have df := N.d df; have e0 := N.o e0; have e1 := N.o e1; have e103 := N.o e103; have e107 := N.new
  refine qk (d := 108) (v := ?_) sz (wanted_is rfl g70 e103 rfl) ?_ ?_
  rotate_left 1
  · (intro w9 hC9 ρ hρ; have r107 := (hρ _).trans e107; simp [go_sem, r107] <;> with_reducible rfl)
  intro a N; have sz := N.s sz; have df := N.d df; have e0 := N.o e0; have e1 := N.o e1; have e103 := N.o e103; have e108 := N.new
  refine qk (d := 109) (v := ?_) sz (wanted_is rfl g70 e103 rfl) ?_ ?_
  rotate_left 1
  · (intro w9 hC9 ρ hρ; have r1 := (hρ _).trans e1; simp [go_sem, r1] <;> with_reducible rfl)
  intro a N; have sz := N.s sz; have df := N.d df; have e0 := N.o e0; have e1 := N.o e1; have e103 := N.o e103; have e108 := N.o e108; have e109 := N.new
  refine qk (d := 110) (v := ?_) sz (wanted_is rfl g70 e103 rfl) ?_ ?_
  rotate_left 1
  · (intro w9 hC9 ρ hρ; have r109 := (hρ _).trans e109; simp [go_sem, r109] <;> with_reducible rfl)
  intro a N; have sz := N.s sz; have df := N.d df; have e0 := N.o e0; have e1 := N.o e1; have e103 := N.o e103; have e108 := N.o e108; have e110 := N.new
  refine qk (d := 111) (v := ?_) sz (wanted_is rfl g70 e103 rfl) ?_ ?_
  rotate_left 1
  · (intro w9 hC9 ρ hρ; have r110 := (hρ _).trans e110; simp [go_sem, r110] <;> with_reducible rfl)
  intro a N; have sz := N.s sz; have df := N.d df; have e0 := N.o e0; have e1 := N.o e1; have e103 := N.o e103; have e108 := N.o e108; have e111 := N.new
  refine qk (d := 112) (v := ?_) sz (wanted_is rfl g70 e103 rfl) ?_ ?_
  rotate_left 1
  · (intro w9 hC9 ρ hρ; have hS9 := hCK w9 hC9; have cc : w9.cell? ⟨g', o' + 6, none⟩ = some (.slice bH kH eH) := (HP.out _ hS9).2.2.2.2.2.2.2.1; have r111 := (hρ _).trans e111; simp [go_sem, r111, cc] <;> with_reducible rfl)
  intro a N; have sz := N.s sz; have df := N.d df; have e0 := N.o e0; have e1 := N.o e1; have e103 := N.o e103; have e108 := N.o e108; have e112 := N.new
  refine qk (d := 113) (v := ?_) sz (wanted_is rfl g70 e103 rfl) ?_ ?_
  rotate_left 1
  · (intro w9 hC9 ρ hρ; have r112 := (hρ _).trans e112; simp [go_sem, r112] <;> with_reducible rfl)
  intro a N; have sz := N.s sz; have df := N.d df; have e0 := N.o e0; have e1 := N.o e1; have e103 := N.o e103; have e108 := N.o e108; have e113 := N.new
  by_cases hf6 : nH = kH
  rotate_left 1
  · as_aux_lemma =>
      have hi : ¬ (nH : Int) = (kH : Int) := by omega
      have hq : ((nH : Int) != (kH : Int)) = true := by simpa using hi
      refine qk (d := 114) (v := ?_) sz (wanted_is rfl g70 e103 rfl) ?_ ?_
      rotate_left 1
      · (intro w9 hC9 ρ hρ; have r108 := (hρ _).trans e108; have r113 := (hρ _).trans e113; simp [go_sem, r108, r113, hq] <;> with_reducible rfl)
      intro a N; have sz := N.s sz; have df := N.d df; have e0 := N.o e0; have e1 := N.o e1; have e103 := N.o e103; have e114 := N.new
      refine qn (d := 115) (v := ?_) sz ?_ ?_
      rotate_left 1
      · (intro w9 hC9 ρ hρ; have rc : ∀ v, ρ (.const v) = v := fun v => hρ _; have r103 := (hρ _).trans e103; have r114 := (hρ _).trans e114; simp [go_sem, rc, r103, r114] <;> with_reducible rfl)
      intro a N; have sz := N.s sz; have df := N.d df; have e0 := N.o e0; have e1 := N.o e1; have e115 := N.new
      refine qn (d := 116) (v := ?_) sz ?_ ?_
      rotate_left 1
      · (intro w9 hC9 ρ hρ; have r115 := (hρ _).trans e115; simp [go_sem, r115] <;> with_reducible rfl)
      intro a N; have sz := N.s sz; have df := N.d df; have e0 := N.o e0; have e1 := N.o e1; have e116 := N.new
      refine qs (d := 117) sz (wanted_is rfl g83 e116 rfl) ?_
      intro a N; have sz := N.s sz; have df := N.d df; have e0 := N.o e0; have e1 := N.o e1; have e116 := N.o e116; have e117 := N.new
      refine qs (d := 118) sz (wanted_is rfl g83 e116 rfl) ?_
      intro a N; have sz := N.s sz; have df := N.d df; have e0 := N.o e0; have e1 := N.o e1; have e116 := N.o e116; have e118 := N.new
      refine qs (d := 119) sz (wanted_is rfl g83 e116 rfl) ?_
      intro a N; have sz := N.s sz; have df := N.d df; have e0 := N.o e0; have e1 := N.o e1; have e116 := N.o e116; have e119 := N.new
      refine qs (d := 120) sz (wanted_is rfl g83 e116 rfl) ?_
      intro a N; have sz := N.s sz; have df := N.d df; have e0 := N.o e0; have e1 := N.o e1; have e116 := N.o e116; have e120 := N.new
      refine qs (d := 121) sz (wanted_is rfl g83 e116 rfl) ?_
      intro a N; have sz := N.s sz; have df := N.d df; have e0 := N.o e0; have e1 := N.o e1; have e116 := N.o e116; have e121 := N.new
      refine qs (d := 122) sz (wanted_is rfl g83 e116 rfl) ?_
      intro a N; have sz := N.s sz; have df := N.d df; have e0 := N.o e0; have e1 := N.o e1; have e116 := N.o e116; have e121 := N.o e121; have e122 := N.new
      refine qs (d := 123) sz (wanted_is rfl g83 e116 rfl) ?_
      intro a N; have sz := N.s sz; have df := N.d df; have e0 := N.o e0; have e1 := N.o e1; have e116 := N.o e116; have e121 := N.o e121; have e123 := N.new
      refine qs (d := 124) sz (wanted_is rfl g83 e116 rfl) ?_
      intro a N; have sz := N.s sz; have df := N.d df; have e0 := N.o e0; have e1 := N.o e1; have e116 := N.o e116; have e121 := N.o e121; have e124 := N.new
      refine qs (d := 125) sz (wanted_is rfl g83 e116 rfl) ?_
      intro a N; have sz := N.s sz; have df := N.d df; have e0 := N.o e0; have e1 := N.o e1; have e116 := N.o e116; have e121 := N.o e121; have e125 := N.new
      refine qs (d := 126) sz (wanted_is rfl g83 e116 rfl) ?_
      intro a N; have sz := N.s sz; have df := N.d df; have e0 := N.o e0; have e1 := N.o e1; have e116 := N.o e116; have e121 := N.o e121; have e126 := N.new
      refine qs (d := 127) sz (wanted_is rfl g83 e116 rfl) ?_
      intro a N; have sz := N.s sz; have df := N.d df; have e0 := N.o e0; have e1 := N.o e1; have e116 := N.o e116; have e127 := N.new
      refine qn (d := 128) (v := ?_) sz ?_ ?_
      rotate_left 1
      · (intro w9 hC9 ρ hρ; have rc : ∀ v, ρ (.const v) = v := fun v => hρ _; have r116 := (hρ _).trans e116; have r127 := (hρ _).trans e127; simp [go_sem, rc, r116, r127] <;> with_reducible rfl)
      intro a N; have sz := N.s sz; have df := N.d df; have e0 := N.o e0; have e1 := N.o e1; have e128 := N.new
      refine qn (d := 129) (v := ?_) sz ?_ ?_
      rotate_left 1
      · (intro w9 hC9 ρ hρ; have r128 := (hρ _).trans e128; simp [go_sem, r128] <;> with_reducible rfl)
      intro a N; have sz := N.s sz; have df := N.d df; have e0 := N.o e0; have e1 := N.o e1; have e129 := N.new
      refine qs (d := 130) sz (wanted_is rfl g96 e129 rfl) ?_
      intro a N; have sz := N.s sz; have df := N.d df; have e0 := N.o e0; have e1 := N.o e1; have e129 := N.o e129; have e130 := N.new
      refine qs (d := 131) sz (wanted_is rfl g96 e129 rfl) ?_
      intro a N; have sz := N.s sz; have df := N.d df; have e0 := N.o e0; have e1 := N.o e1; have e129 := N.o e129; have e131 := N.new
      refine qs (d := 132) sz (wanted_is rfl g96 e129 rfl) ?_
      intro a N; have sz := N.s sz; have df := N.d df; have e0 := N.o e0; have e1 := N.o e1; have e129 := N.o e129; have e132 := N.new
      refine qs (d := 133) sz (wanted_is rfl g96 e129 rfl) ?_
      intro a N; have sz := N.s sz; have df := N.d df; have e0 := N.o e0; have e1 := N.o e1; have e129 := N.o e129; have e133 := N.new
      refine qs (d := 134) sz (wanted_is rfl g96 e129 rfl) ?_
      intro a N; have sz := N.s sz; have df := N.d df; have e0 := N.o e0; have e1 := N.o e1; have e129 := N.o e129; have e134 := N.new
      refine qs (d := 135) sz (wanted_is rfl g96 e129 rfl) ?_
      intro a N; have sz := N.s sz; have df := N.d df; have e0 := N.o e0; have e1 := N.o e1; have e129 := N.o e129; have e134 := N.o e134; have e135 := N.new
      refine qs (d := 136) sz (wanted_is rfl g96 e129 rfl) ?_
      intro a N; have sz := N.s sz; have df := N.d df; have e0 := N.o e0; have e1 := N.o e1; have e129 := N.o e129; have e134 := N.o e134; have e136 := N.new
      refine qs (d := 137) sz (wanted_is rfl g96 e129 rfl) ?_
      intro a N; have sz := N.s sz; have df := N.d df; have e0 := N.o e0; have e1 := N.o e1; have e129 := N.o e129; have e134 := N.o e134; have e137 := N.new
      refine qs (d := 138) sz (wanted_is rfl g96 e129 rfl) ?_
      intro a N; have sz := N.s sz; have df := N.d df; have e0 := N.o e0; have e1 := N.o e1; have e129 := N.o e129; have e134 := N.o e134; have e138 := N.new
      refine qs (d := 139) sz (wanted_is rfl g96 e129 rfl) ?_
      intro a N; have sz := N.s sz; have df := N.d df; have e0 := N.o e0; have e1 := N.o e1; have e129 := N.o e129; have e134 := N.o e134; have e139 := N.new
      refine qs (d := 140) sz (wanted_is rfl g96 e129 rfl) ?_
      intro a N; have sz := N.s sz; have df := N.d df; have e0 := N.o e0; have e1 := N.o e1; have e129 := N.o e129; have e140 := N.new
      refine qn (d := 141) (v := ?_) sz ?_ ?_
      rotate_left 1
      · (intro w9 hC9 ρ hρ; have rc : ∀ v, ρ (.const v) = v := fun v => hρ _; have r129 := (hρ _).trans e129; have r140 := (hρ _).trans e140; simp [go_sem, rc, r129, r140] <;> with_reducible rfl)
      intro a N; have sz := N.s sz; have df := N.d df; have e0 := N.o e0; have e1 := N.o e1; have e141 := N.new
      refine wpQuiet_nil ?_; intro w9 hC9; exact h _ _ true ⟨sz, df, e0, e1⟩ e141 ⟨fun h => (by cases h), fun h => absurd h.2.2.2.2.2.2.1 hf6⟩ (hCK w9 hC9)
  subst hf6
  refine qk (d := 114) (v := ?_) sz (wanted_is rfl g70 e103 rfl) ?_ ?_
  rotate_left 1
  · (intro w9 hC9 ρ hρ; have r108 := (hρ _).trans e108; have r113 := (hρ _).trans e113; simp [go_sem, r108, r113] <;> with_reducible rfl)
  intro a N; have sz := N.s sz; have df := N.d df; have e0 := N.o e0; have e1 := N.o e1; have e103 := N.o e103; have e114 := N.new
  refine qn (d := 115) (v := ?_) sz ?_ ?_
  rotate_left 1
  · (intro w9 hC9 ρ hρ; have rc : ∀ v, ρ (.const v) = v := fun v => hρ _; have r103 := (hρ _).trans e103; have r114 := (hρ _).trans e114; simp [go_sem, rc, r103, r114] <;> with_reducible rfl)
  intro a N; have sz := N.s sz; have df := N.d df; have e0 := N.o e0; have e1 := N.o e1; have e115 := N.new
  refine qn (d := 116) (v := ?_) sz ?_ ?_
  rotate_left 1
  · (intro w9 hC9 ρ hρ; have r115 := (hρ _).trans e115; simp [go_sem, r115] <;> with_reducible rfl)
  intro a N; have sz := N.s sz; have df := N.d df; have e0 := N.o e0; have e1 := N.o e1; have e116 := N.new
  refine qk (d := 117) (v := ?_) sz (wanted_is rfl g83 e116 rfl) ?_ ?_
  rotate_left 1
  · (intro w9 hC9 ρ hρ; have r0 := (hρ _).trans e0; simp [go_sem, r0] <;> with_reducible rfl)
  intro a N; have sz := N.s sz; have df := N.d df; have e0 := N.o e0; have e1 := N.o e1; have e116 := N.o e116; have e117 := N.new
  refine qk (d := 118) (v := ?_) sz (wanted_is rfl g83 e116 rfl) ?_ ?_
  rotate_left 1
  · (intro w9 hC9 ρ hρ; have r117 := (hρ _).trans e117; simp [go_sem, r117] <;> with_reducible rfl)
  intro a N; have sz := N.s sz; have df := N.d df; have e0 := N.o e0; have e1 := N.o e1; have e116 := N.o e116; have e118 := N.new
  refine qk (d := 119) (v := ?_) sz (wanted_is rfl g83 e116 rfl) ?_ ?_
  rotate_left 1
  · (intro w9 hC9 ρ hρ; have r118 := (hρ _).trans e118; simp [go_sem, r118] <;> with_reducible rfl)
  intro a N; have sz := N.s sz; have df := N.d df; have e0 := N.o e0; have e1 := N.o e1; have e116 := N.o e116; have e119 := N.new
  refine qk (d := 120) (v := ?_) sz (wanted_is rfl g83 e116 rfl) ?_ ?_
  rotate_left 1
  · (intro w9 hC9 ρ hρ; have hS9 := hCK w9 hC9; have cc : w9.cell? ⟨g, o + 7, none⟩ = some (.slice aL nL dL) := (HP.out _ hS9).1.2.2.2.2.2.2.2.1; have r119 := (hρ _).trans e119; simp [go_sem, r119, cc] <;> with_reducible rfl)
  intro a N; have sz := N.s sz; have df := N.d df; have e0 := N.o e0; have e1 := N.o e1; have e116 := N.o e116; have e120 := N.new
  refine qk (d := 121) (v := ?_) sz (wanted_is rfl g83 e116 rfl) ?_ ?_
  rotate_left 1
  · (intro w9 hC9 ρ hρ; have r120 := (hρ _).trans e120; simp [go_sem, r120] <;> with_reducible rfl)
  intro a N; have sz := N.s sz; have df := N.d df; have e0 := N.o e0; have e1 := N.o e1; have e116 := N.o e116; have e121 := N.new
  refine qk (d := 122) (v := ?_) sz (wanted_is rfl g83 e116 rfl) ?_ ?_
  rotate_left 1
  · (intro w9 hC9 ρ hρ; have r1 := (hρ _).trans e1; simp [go_sem, r1] <;> with_reducible rfl)
  intro a N; have sz := N.s sz; have df := N.d df; have e0 := N.o e0; have e1 := N.o e1; have e116 := N.o e116; have e121 := N.o e121; have e122 := N.new
  refine qk (d := 123) (v := ?_) sz (wanted_is rfl g83 e116 rfl) ?_ ?_
  rotate_left 1
  · (intro w9 hC9 ρ hρ; have r122 := (hρ _).trans e122; simp [go_sem, r122] <;> with_reducible rfl)
  intro a N; have sz := N.s sz; have df := N.d df; have e0 := N.o e0; have e1 := N.o e1; have e116 := N.o e116; have e121 := N.o e121; have e123 := N.new
  refine qk (d := 124) (v := ?_) sz (wanted_is rfl g83 e116 rfl) ?_ ?_
  rotate_left 1
  · (intro w9 hC9 ρ hρ; have r123 := (hρ _).trans e123; simp [go_sem, r123] <;> with_reducible rfl)
  intro a N; have sz := N.s sz; have df := N.d df; have e0 := N.o e0; have e1 := N.o e1; have e116 := N.o e116; have e121 := N.o e121; have e124 := N.new
  refine qk (d := 125) (v := ?_) sz (wanted_is rfl g83 e116 rfl) ?_ ?_
  rotate_left 1
  · (intro w9 hC9 ρ hρ; have hS9 := hCK w9 hC9; have cc : w9.cell? ⟨g', o' + 7, none⟩ = some (.slice bL kL eL) := (HP.out _ hS9).2.2.2.2.2.2.2.2.1; have r124 := (hρ _).trans e124; simp [go_sem, r124, cc] <;> with_reducible rfl)
  intro a N; have sz := N.s sz; have df := N.d df; have e0 := N.o e0; have e1 := N.o e1; have e116 := N.o e116; have e121 := N.o e121; have e125 := N.new
  refine qk (d := 126) (v := ?_) sz (wanted_is rfl g83 e116 rfl) ?_ ?_
  rotate_left 1
  · (intro w9 hC9 ρ hρ; have r125 := (hρ _).trans e125; simp [go_sem, r125] <;> with_reducible rfl)
  intro a N; have sz := N.s sz; have df := N.d df; have e0 := N.o e0; have e1 := N.o e1; have e116 := N.o e116; have e121 := N.o e121; have e126 := N.new
  by_cases hf7 : nL = kL
  rotate_left 1
  · as_aux_lemma =>
      have hi : ¬ (nL : Int) = (kL : Int) := by omega
      have hq : ((nL : Int) != (kL : Int)) = true := by simpa using hi
      refine qk (d := 127) (v := ?_) sz (wanted_is rfl g83 e116 rfl) ?_ ?_
      rotate_left 1
      · (intro w9 hC9 ρ hρ; have r121 := (hρ _).trans e121; have r126 := (hρ _).trans e126; simp [go_sem, r121, r126, hq] <;> with_reducible rfl)
      intro a N; have sz := N.s sz; have df := N.d df; have e0 := N.o e0; have e1 := N.o e1; have e116 := N.o e116; have e127 := N.new
      refine qn (d := 128) (v := ?_) sz ?_ ?_
      rotate_left 1
      · (intro w9 hC9 ρ hρ; have rc : ∀ v, ρ (.const v) = v := fun v => hρ _; have r116 := (hρ _).trans e116; have r127 := (hρ _).trans e127; simp [go_sem, rc, r116, r127] <;> with_reducible rfl)
      intro a N; have sz := N.s sz; have df := N.d df; have e0 := N.o e0; have e1 := N.o e1; have e128 := N.new
      refine qn (d := 129) (v := ?_) sz ?_ ?_
      rotate_left 1
      · (intro w9 hC9 ρ hρ; have r128 := (hρ _).trans e128; simp [go_sem, r128] <;> with_reducible rfl)
      intro a N; have sz := N.s sz; have df := N.d df; have e0 := N.o e0; have e1 := N.o e1; have e129 := N.new
      refine qs (d := 130) sz (wanted_is rfl g96 e129 rfl) ?_
      intro a N; have sz := N.s sz; have df := N.d df; have e0 := N.o e0; have e1 := N.o e1; have e129 := N.o e129; have e130 := N.new
      refine qs (d := 131) sz (wanted_is rfl g96 e129 rfl) ?_
      intro a N; have sz := N.s sz; have df := N.d df; have e0 := N.o e0; have e1 := N.o e1; have e129 := N.o e129; have e131 := N.new
      refine qs (d := 132) sz (wanted_is rfl g96 e129 rfl) ?_
      intro a N; have sz := N.s sz; have df := N.d df; have e0 := N.o e0; have e1 := N.o e1; have e129 := N.o e129; have e132 := N.new
      refine qs (d := 133) sz (wanted_is rfl g96 e129 rfl) ?_
      intro a N; have sz := N.s sz; have df := N.d df; have e0 := N.o e0; have e1 := N.o e1; have e129 := N.o e129; have e133 := N.new
      refine qs (d := 134) sz (wanted_is rfl g96 e129 rfl) ?_
      intro a N; have sz := N.s sz; have df := N.d df; have e0 := N.o e0; have e1 := N.o e1; have e129 := N.o e129; have e134 := N.new
      refine qs (d := 135) sz (wanted_is rfl g96 e129 rfl) ?_
      intro a N; have sz := N.s sz; have df := N.d df; have e0 := N.o e0; have e1 := N.o e1; have e129 := N.o e129; have e134 := N.o e134; have e135 := N.new
      refine qs (d := 136) sz (wanted_is rfl g96 e129 rfl) ?_
      intro a N; have sz := N.s sz; have df := N.d df; have e0 := N.o e0; have e1 := N.o e1; have e129 := N.o e129; have e134 := N.o e134; have e136 := N.new
      refine qs (d := 137) sz (wanted_is rfl g96 e129 rfl) ?_
      intro a N; have sz := N.s sz; have df := N.d df; have e0 := N.o e0; have e1 := N.o e1; have e129 := N.o e129; have e134 := N.o e134; have e137 := N.new
      refine qs (d := 138) sz (wanted_is rfl g96 e129 rfl) ?_
      intro a N; have sz := N.s sz; have df := N.d df; have e0 := N.o e0; have e1 := N.o e1; have e129 := N.o e129; have e134 := N.o e134; have e138 := N.new
      refine qs (d := 139) sz (wanted_is rfl g96 e129 rfl) ?_
      intro a N; have sz := N.s sz; have df := N.d df; have e0 := N.o e0; have e1 := N.o e1; have e129 := N.o e129; have e134 := N.o e134; have e139 := N.new
      refine qs (d := 140) sz (wanted_is rfl g96 e129 rfl) ?_
      intro a N; have sz := N.s sz; have df := N.d df; have e0 := N.o e0; have e1 := N.o e1; have e129 := N.o e129; have e140 := N.new
      refine qn (d := 141) (v := ?_) sz ?_ ?_
      rotate_left 1
      · (intro w9 hC9 ρ hρ; have rc : ∀ v, ρ (.const v) = v := fun v => hρ _; have r129 := (hρ _).trans e129; have r140 := (hρ _).trans e140; simp [go_sem, rc, r129, r140] <;> with_reducible rfl)
      intro a N; have sz := N.s sz; have df := N.d df; have e0 := N.o e0; have e1 := N.o e1; have e141 := N.new
      refine wpQuiet_nil ?_; intro w9 hC9; exact h _ _ true ⟨sz, df, e0, e1⟩ e141 ⟨fun h => (by cases h), fun h => absurd h.2.2.2.2.2.2.2.1 hf7⟩ (hCK w9 hC9)
  subst hf7
  refine qk (d := 127) (v := ?_) sz (wanted_is rfl g83 e116 rfl) ?_ ?_
  rotate_left 1
  · (intro w9 hC9 ρ hρ; have r121 := (hρ _).trans e121; have r126 := (hρ _).trans e126; simp [go_sem, r121, r126] <;> with_reducible rfl)
  intro a N; have sz := N.s sz; have df := N.d df; have e0 := N.o e0; have e1 := N.o e1; have e116 := N.o e116; have e127 := N.new
  refine qn (d := 128) (v := ?_) sz ?_ ?_
  rotate_left 1
  · (intro w9 hC9 ρ hρ; have rc : ∀ v, ρ (.const v) = v := fun v => hρ _; have r116 := (hρ _).trans e116; have r127 := (hρ _).trans e127; simp [go_sem, rc, r116, r127] <;> with_reducible rfl)
  intro a N; have sz := N.s sz; have df := N.d df; have e0 := N.o e0; have e1 := N.o e1; have e128 := N.new
  refine qn (d := 129) (v := ?_) sz ?_ ?_
  rotate_left 1
  · (intro w9 hC9 ρ hρ; have r128 := (hρ _).trans e128; simp [go_sem, r128] <;> with_reducible rfl)
  intro a N; have sz := N.s sz; have df := N.d df; have e0 := N.o e0; have e1 := N.o e1; have e129 := N.new
  refine qk (d := 130) (v := ?_) sz (wanted_is rfl g96 e129 rfl) ?_ ?_
  rotate_left 1
  · (intro w9 hC9 ρ hρ; have r0 := (hρ _).trans e0; simp [go_sem, r0] <;> with_reducible rfl)
  intro a N; have sz := N.s sz; have df := N.d df; have e0 := N.o e0; have e1 := N.o e1; have e129 := N.o e129; have e130 := N.new
  refine qk (d := 131) (v := ?_) sz (wanted_is rfl g96 e129 rfl) ?_ ?_
  rotate_left 1
  · (intro w9 hC9 ρ hρ; have r130 := (hρ _).trans e130; simp [go_sem, r130] <;> with_reducible rfl)
  intro a N; have sz := N.s sz; have df := N.d df; have e0 := N.o e0; have e1 := N.o e1; have e129 := N.o e129; have e131 := N.new
  refine qk (d := 132) (v := ?_) sz (wanted_is rfl g96 e129 rfl) ?_ ?_
  rotate_left 1
  · (intro w9 hC9 ρ hρ; have r131 := (hρ _).trans e131; simp [go_sem, r131] <;> with_reducible rfl)
  intro a N; have sz := N.s sz; have df := N.d df; have e0 := N.o e0; have e1 := N.o e1; have e129 := N.o e129; have e132 := N.new
  refine qk (d := 133) (v := ?_) sz (wanted_is rfl g96 e129 rfl) ?_ ?_
  rotate_left 1
  · (intro w9 hC9 ρ hρ; have hS9 := hCK w9 hC9; have cc : w9.cell? ⟨g, o + 8, none⟩ = some (.slice aI nI dI) := (HP.out _ hS9).1.2.2.2.2.2.2.2.2; have r132 := (hρ _).trans e132; simp [go_sem, r132, cc] <;> with_reducible rfl)
  intro a N; have sz := N.s sz; have df := N.d df; have e0 := N.o e0; have e1 := N.o e1; have e129 := N.o e129; have e133 := N.new
  refine qk (d := 134) (v := ?_) sz (wanted_is rfl g96 e129 rfl) ?_ ?_
  rotate_left 1
  · (intro w9 hC9 ρ hρ; have r133 := (hρ _).trans e133; simp [go_sem, r133] <;> with_reducible rfl)
  intro a N; have sz := N.s sz; have df := N.d df; have e0 := N.o e0; have e1 := N.o e1; have e129 := N.o e129; have e134 := N.new
  refine qk (d := 135) (v := ?_) sz (wanted_is rfl g96 e129 rfl) ?_ ?_
  rotate_left 1
  · (intro w9 hC9 ρ hρ; have r1 := (hρ _).trans e1; simp [go_sem, r1] <;> with_reducible rfl)
  intro a N; have sz := N.s sz; have df := N.d df; have e0 := N.o e0; have e1 := N.o e1; have e129 := N.o e129; have e134 := N.o e134; have e135 := N.new
  refine qk (d := 136) (v := ?_) sz (wanted_is rfl g96 e129 rfl) ?_ ?_
  rotate_left 1
  · (intro w9 hC9 ρ hρ; have r135 := (hρ _).trans e135; simp [go_sem, r135] <;> with_reducible rfl)
  intro a N; have sz := N.s sz; have df := N.d df; have e0 := N.o e0; have e1 := N.o e1; have e129 := N.o e129; have e134 := N.o e134; have e136 := N.new
  refine qk (d := 137) (v := ?_) sz (wanted_is rfl g96 e129 rfl) ?_ ?_
  rotate_left 1
  · (intro w9 hC9 ρ hρ; have r136 := (hρ _).trans e136; simp [go_sem, r136] <;> with_reducible rfl)
  intro a N; have sz := N.s sz; have df := N.d df; have e0 := N.o e0; have e1 := N.o e1; have e129 := N.o e129; have e134 := N.o e134; have e137 := N.new
  refine qk (d := 138) (v := ?_) sz (wanted_is rfl g96 e129 rfl) ?_ ?_
  rotate_left 1
  · (intro w9 hC9 ρ hρ; have hS9 := hCK w9 hC9; have cc : w9.cell? ⟨g', o' + 8, none⟩ = some (.slice bI kI eI) := (HP.out _ hS9).2.2.2.2.2.2.2.2.2; have r137 := (hρ _).trans e137; simp [go_sem, r137, cc] <;> with_reducible rfl)
  intro a N; have sz := N.s sz; have df := N.d df; have e0 := N.o e0; have e1 := N.o e1; have e129 := N.o e129; have e134 := N.o e134; have e138 := N.new
  refine qk (d := 139) (v := ?_) sz (wanted_is rfl g96 e129 rfl) ?_ ?_
  rotate_left 1
  · (intro w9 hC9 ρ hρ; have r138 := (hρ _).trans e138; simp [go_sem, r138] <;> with_reducible rfl)
  intro a N; have sz := N.s sz; have df := N.d df; have e0 := N.o e0; have e1 := N.o e1; have e129 := N.o e129; have e134 := N.o e134; have e139 := N.new
  by_cases hf8 : nI = kI
  rotate_left 1
  · as_aux_lemma =>
      have hi : ¬ (nI : Int) = (kI : Int) := by omega
      have hq : ((nI : Int) != (kI : Int)) = true := by simpa using hi
      refine qk (d := 140) (v := ?_) sz (wanted_is rfl g96 e129 rfl) ?_ ?_
      rotate_left 1
      · (intro w9 hC9 ρ hρ; have r134 := (hρ _).trans e134; have r139 := (hρ _).trans e139; simp [go_sem, r134, r139, hq] <;> with_reducible rfl)
      intro a N; have sz := N.s sz; have df := N.d df; have e0 := N.o e0; have e1 := N.o e1; have e129 := N.o e129; have e140 := N.new
      refine qn (d := 141) (v := ?_) sz ?_ ?_
      rotate_left 1
      · (intro w9 hC9 ρ hρ; have rc : ∀ v, ρ (.const v) = v := fun v => hρ _; have r129 := (hρ _).trans e129; have r140 := (hρ _).trans e140; simp [go_sem, rc, r129, r140] <;> with_reducible rfl)
      intro a N; have sz := N.s sz; have df := N.d df; have e0 := N.o e0; have e1 := N.o e1; have e141 := N.new
      refine wpQuiet_nil ?_; intro w9 hC9; exact h _ _ true ⟨sz, df, e0, e1⟩ e141 ⟨fun h => (by cases h), fun h => absurd h.2.2.2.2.2.2.2.2 hf8⟩ (hCK w9 hC9)
  subst hf8
  refine qk (d := 140) (v := ?_) sz (wanted_is rfl g96 e129 rfl) ?_ ?_
  rotate_left 1
  · (intro w9 hC9 ρ hρ; have r134 := (hρ _).trans e134; have r139 := (hρ _).trans e139; simp [go_sem, r134, r139] <;> with_reducible rfl)
  intro a N; have sz := N.s sz; have df := N.d df; have e0 := N.o e0; have e1 := N.o e1; have e129 := N.o e129; have e140 := N.new
  refine qn (d := 141) (v := ?_) sz ?_ ?_
  rotate_left 1
  · (intro w9 hC9 ρ hρ; have rc : ∀ v, ρ (.const v) = v := fun v => hρ _; have r129 := (hρ _).trans e129; have r140 := (hρ _).trans e140; simp [go_sem, rc, r129, r140] <;> with_reducible rfl)
  intro a N; have sz := N.s sz; have df := N.d df; have e0 := N.o e0; have e1 := N.o e1; have e141 := N.new
  refine wpQuiet_nil ?_; intro w9 hC9; exact h _ _ false ⟨sz, df, e0, e1⟩ e141 ⟨fun _ => ⟨rfl, rfl, rfl, rfl, rfl, rfl, rfl, rfl, rfl⟩, fun _ => rfl⟩ (hCK w9 hC9)

end Go.Proofs.Ytpefkellcigpkaa.Cd
