/- codec: the reference's comparison: its loop over Mobs. (made by tools/genre2.py) -/
import Derived.Test.YtpefkellcigpkaaCdFr
import Derived.Test.YtpefkellcigpkaaCdEqI
import Derived.Test.YtpefkellcigpkaaCdLs
namespace Go.Proofs.Ytpefkellcigpkaa.Cd
open Go.RowKit Go.Deep Go.Proofs.Ytpefkellcigpkaa
set_option maxRecDepth 100000

theorem reM_cond {g o g' o' : Nat} {a : Act} {w : World} {Q : Exit → Act → World → Prop} {k n d : Nat} {b : Option Addr} (ha : FrE (.pointer (some ⟨g, o, none⟩)) (.pointer (some ⟨g', o', none⟩)) a) (e11 : a.eval (.tmp 11) = .int .i64 (k : Int)) (c : w.cell? ⟨g, o + 5, none⟩ = some (.slice b n d))
    (h : ∀ a', FrE (.pointer (some ⟨g, o, none⟩)) (.pointer (some ⟨g', o', none⟩)) a' → a'.eval (.tmp 11) = .int .i64 (k : Int) → a'.eval (.tmp 296) = .bool (decide (k < n)) → Q .normal a' w) : (rgEq 18).wp Try.prog Q a w := by
  obtain ⟨sz, df, e0, e1⟩ := ha
  conv => arg 2; whnf
  refine wp_region_list ?_
  dsimp only
  refine tn (d := 290) (v := ?_) sz ?_ ?_
  rotate_left 1
  · (intro ρ hρ; have r11 := (hρ _).trans e11; simp [go_sem, r11] <;> with_reducible rfl)
  intro a N; have sz := N.s sz; have df := N.d df; have e0 := N.o e0; have e1 := N.o e1; have e11 := N.o e11; have e290 := N.new
  refine tn (d := 291) (v := ?_) sz ?_ ?_
  rotate_left 1
  · (intro ρ hρ; have r0 := (hρ _).trans e0; simp [go_sem, r0] <;> with_reducible rfl)
  intro a N; have sz := N.s sz; have df := N.d df; have e0 := N.o e0; have e1 := N.o e1; have e11 := N.o e11; have e290 := N.o e290; have e291 := N.new
  refine tn (d := 292) (v := ?_) sz ?_ ?_
  rotate_left 1
  · (intro ρ hρ; have r291 := (hρ _).trans e291; simp [go_sem, r291] <;> with_reducible rfl)
  intro a N; have sz := N.s sz; have df := N.d df; have e0 := N.o e0; have e1 := N.o e1; have e11 := N.o e11; have e290 := N.o e290; have e292 := N.new
  refine tn (d := 293) (v := ?_) sz ?_ ?_
  rotate_left 1
  · (intro ρ hρ; have r292 := (hρ _).trans e292; simp [go_sem, r292] <;> with_reducible rfl)
  intro a N; have sz := N.s sz; have df := N.d df; have e0 := N.o e0; have e1 := N.o e1; have e11 := N.o e11; have e290 := N.o e290; have e293 := N.new
  refine tn (d := 294) (v := ?_) sz ?_ ?_
  rotate_left 1
  · (intro ρ hρ; have r293 := (hρ _).trans e293; simp [go_sem, r293, c] <;> with_reducible rfl)
  intro a N; have sz := N.s sz; have df := N.d df; have e0 := N.o e0; have e1 := N.o e1; have e11 := N.o e11; have e290 := N.o e290; have e294 := N.new
  refine tn (d := 295) (v := ?_) sz ?_ ?_
  rotate_left 1
  · (intro ρ hρ; have r294 := (hρ _).trans e294; simp [go_sem, r294] <;> with_reducible rfl)
  intro a N; have sz := N.s sz; have df := N.d df; have e0 := N.o e0; have e1 := N.o e1; have e11 := N.o e11; have e290 := N.o e290; have e295 := N.new
  refine tn (d := 296) (v := ?_) sz ?_ ?_
  rotate_left 1
  · (intro ρ hρ; have r290 := (hρ _).trans e290; have r295 := (hρ _).trans e295; simp [go_sem, r290, r295] <;> with_reducible rfl)
  intro a N; have sz := N.s sz; have df := N.d df; have e0 := N.o e0; have e1 := N.o e1; have e11 := N.o e11; have e296 := N.new
  exact h _ ⟨sz, df, e0, e1⟩ e11 e296

theorem reM_post {g o g' o' : Nat} {a : Act} {w : World} {Q : Exit → Act → World → Prop} {k : Nat} (ha : FrE (.pointer (some ⟨g, o, none⟩)) (.pointer (some ⟨g', o', none⟩)) a) (e11 : a.eval (.tmp 11) = .int .i64 (k : Int)) (hk : (k : Int) + 1 ≤ 9223372036854775807)
    (h : ∀ a', FrE (.pointer (some ⟨g, o, none⟩)) (.pointer (some ⟨g', o', none⟩)) a' → a'.eval (.tmp 11) = .int .i64 ((k + 1 : Nat) : Int) → Q .normal a' w) : (rgEq 19).wp Try.prog Q a w := by
  obtain ⟨sz, df, e0, e1⟩ := ha
  have hwr : IntKind.i64.wrap ((k : Int) + 1) = ((k + 1 : Nat) : Int) := i64_nat (k + 1) (by omega)
  conv => arg 2; whnf
  refine wp_region_list ?_
  dsimp only
  refine tn (d := 297) (v := ?_) sz ?_ ?_
  rotate_left 1
  · (intro ρ hρ; have r11 := (hρ _).trans e11; simp [go_sem, r11] <;> with_reducible rfl)
  intro a N; have sz := N.s sz; have df := N.d df; have e0 := N.o e0; have e1 := N.o e1; have e11 := N.o e11; have e297 := N.new
  refine tn (d := 298) (v := ?_) sz ?_ ?_
  rotate_left 1
  · (intro ρ hρ; have rc : ∀ v, ρ (.const v) = v := fun v => hρ _; have r297 := (hρ _).trans e297; simp [go_sem, rc, r297, hwr] <;> with_reducible rfl)
  intro a N; have sz := N.s sz; have df := N.d df; have e0 := N.o e0; have e1 := N.o e1; have e11 := N.o e11; have e298 := N.new
  refine tn (d := 11) (v := ?_) sz ?_ ?_
  rotate_left 1
  · (intro ρ hρ; have r298 := (hρ _).trans e298; simp [go_sem, r298] <;> with_reducible rfl)
  intro a N; have sz := N.s sz; have df := N.d df; have e0 := N.o e0; have e1 := N.o e1; have e11 := N.new
  exact h _ ⟨sz, df, e0, e1⟩ e11

theorem reM_ret {g o g' o' : Nat} {a : Act} {w : World} {Q : Exit → Act → World → Prop} (ha : FrE (.pointer (some ⟨g, o, none⟩)) (.pointer (some ⟨g', o', none⟩)) a) (h : ∀ a', FrE (.pointer (some ⟨g, o, none⟩)) (.pointer (some ⟨g', o', none⟩)) a' → a'.eval (.tmp 4) = .bool false → Q .normal a' w) : (rgEq 22).wp Try.prog Q a w := by
  obtain ⟨sz, df, e0, e1⟩ := ha
  conv => arg 2; whnf
  refine wp_region_list ?_
  dsimp only
  refine tn (d := 4) (v := ?_) sz ?_ ?_
  rotate_left 1
  · (intro ρ hρ; have rc : ∀ v, ρ (.const v) = v := fun v => hρ _; simp [go_sem, rc] <;> with_reducible rfl)
  intro a N; have sz := N.s sz; have df := N.d df; have e0 := N.o e0; have e1 := N.o e1; have e4 := N.new
  exact h _ ⟨sz, df, e0, e1⟩ e4

theorem reM_asg {g o g' o' : Nat} {a : Act} {w : World} {Q : Exit → Act → World → Prop} {k n d1 d2 g1 o1 g2 o2 : Nat} {f0 : Int} {f1 : Int} {f2 : Int} {f3 : Int} {r0 : Int} {r1 : Int} {r2 : Int} {r3 : Int} (hQ : PanicOnly Q) (ha : FrE (.pointer (some ⟨g, o, none⟩)) (.pointer (some ⟨g', o', none⟩)) a) (e11 : a.eval (.tmp 11) = .int .i64 (k : Int)) (h1 : k < n) (h2 : k < n)
    (HP : Hid (∀ w', Keep (fun _ => False) w w' → w'.cell? ⟨g, o + 5, none⟩ = some (.slice (some ⟨g1, o1, none⟩) n d1) ∧ w'.cell? ⟨g', o' + 5, none⟩ = some (.slice (some ⟨g2, o2, none⟩) n d2) ∧ w'.rangeAt g1 (o1 + k * 4) [.int .i64 f0, .int .i64 f1, .int .i64 f2, .int .i64 f3] ∧ w'.rangeAt g2 (o2 + k * 4) [.int .i64 r0, .int .i64 r1, .int .i64 r2, .int .i64 r3]))
    (h : ∀ a' w' h1 h2, FrE (.pointer (some ⟨g, o, none⟩)) (.pointer (some ⟨g', o', none⟩)) a' → a'.eval (.tmp 11) = .int .i64 (k : Int) → a'.eval (.tmp 12) = .pointer (some ⟨h1, 0, none⟩) → a'.eval (.tmp 13) = .pointer (some ⟨h2, 0, none⟩) → w'.heap[h1]? = some (.cells #[.int .i64 f0, .int .i64 f1, .int .i64 f2, .int .i64 f3] 54 (0, 0)) → w'.heap[h2]? = some (.cells #[.int .i64 r0, .int .i64 r1, .int .i64 r2, .int .i64 r3] 54 (0, 0)) → Keep (fun _ => False) w w' → Q .normal a' w') : (rgEq 20).wp Try.prog Q a w := by
  obtain ⟨sz, df, e0, e1⟩ := ha
  obtain ⟨Z, HZ, hZ⟩ := zMob
  conv => arg 2; whnf
  refine wp_region_z (fun w' => Keep (fun _ => False) w w') [] (by kernel_rfl) ?_
  have HS : Hid ((fun w' => Keep (fun _ => False) w w') w.drew) := Lib.hid ((Keep.refl (fun _ => False) w).drew)
  refine wz_take (i := 0) (d := 299) (v := ?_) rfl rfl (by rw [sz]; decide) (wanted_none rfl _) (by kernel_rfl) (by kernel_rfl) (by kernel_rfl) (fun c a w h => hQ c _ _ _ w h) (by kernel_rfl) HS.out ?_ ?_
  rotate_left 1
  · (intro w9 hS9 ρ hρ; have r0 := (hρ _).trans e0; simp [go_sem, r0] <;> with_reducible rfl)
  intro a N; have sz := N.s sz; have df := N.d df; have e0 := N.o e0; have e1 := N.o e1; have e11 := N.o e11; have e299 := N.new
  refine wz_take (i := 1) (d := 300) (v := ?_) rfl rfl (by rw [sz]; decide) (wanted_none rfl _) (by kernel_rfl) (by kernel_rfl) (by kernel_rfl) (fun c a w h => hQ c _ _ _ w h) (by kernel_rfl) HS.out ?_ ?_
  rotate_left 1
  · (intro w9 hS9 ρ hρ; have r299 := (hρ _).trans e299; simp [go_sem, r299] <;> with_reducible rfl)
  intro a N; have sz := N.s sz; have df := N.d df; have e0 := N.o e0; have e1 := N.o e1; have e11 := N.o e11; have e300 := N.new
  refine wz_take (i := 2) (d := 301) (v := ?_) rfl rfl (by rw [sz]; decide) (wanted_none rfl _) (by kernel_rfl) (by kernel_rfl) (by kernel_rfl) (fun c a w h => hQ c _ _ _ w h) (by kernel_rfl) HS.out ?_ ?_
  rotate_left 1
  · (intro w9 hS9 ρ hρ; have r300 := (hρ _).trans e300; simp [go_sem, r300] <;> with_reducible rfl)
  intro a N; have sz := N.s sz; have df := N.d df; have e0 := N.o e0; have e1 := N.o e1; have e11 := N.o e11; have e301 := N.new
  refine wz_take (i := 3) (d := 302) (v := ?_) rfl rfl (by rw [sz]; decide) (wanted_none rfl _) (by kernel_rfl) (by kernel_rfl) (by kernel_rfl) (fun c a w h => hQ c _ _ _ w h) (by kernel_rfl) HS.out ?_ ?_
  rotate_left 1
  · (intro w9 hS9 ρ hρ; have c := (HP.out _ hS9).1; have r301 := (hρ _).trans e301; simp [go_sem, r301, c] <;> with_reducible rfl)
  intro a N; have sz := N.s sz; have df := N.d df; have e0 := N.o e0; have e1 := N.o e1; have e11 := N.o e11; have e302 := N.new
  refine wz_take (i := 4) (d := 303) (v := ?_) rfl rfl (by rw [sz]; decide) (wanted_none rfl _) (by kernel_rfl) (by kernel_rfl) (by kernel_rfl) (fun c a w h => hQ c _ _ _ w h) (by kernel_rfl) HS.out ?_ ?_
  rotate_left 1
  · (intro w9 hS9 ρ hρ; have r11 := (hρ _).trans e11; simp [go_sem, r11] <;> with_reducible rfl)
  intro a N; have sz := N.s sz; have df := N.d df; have e0 := N.o e0; have e1 := N.o e1; have e11 := N.o e11; have e302 := N.o e302; have e303 := N.new
  refine wz_take (i := 5) (d := 304) (v := ?_) rfl rfl (by rw [sz]; decide) (wanted_none rfl _) (by kernel_rfl) (by kernel_rfl) (by kernel_rfl) (fun c a w h => hQ c _ _ _ w h) (by kernel_rfl) HS.out ?_ ?_
  rotate_left 1
  · (intro w9 hS9 ρ hρ; have r302 := (hρ _).trans e302; have r303 := (hρ _).trans e303; simp [go_sem, r302, r303, h1] <;> with_reducible rfl)
  intro a N; have sz := N.s sz; have df := N.d df; have e0 := N.o e0; have e1 := N.o e1; have e11 := N.o e11; have e304 := N.new
  refine wz_take (i := 6) (d := 305) (v := ?_) rfl rfl (by rw [sz]; decide) (wanted_none rfl _) (by kernel_rfl) (by kernel_rfl) (by kernel_rfl) (fun c a w h => hQ c _ _ _ w h) (by kernel_rfl) HS.out ?_ ?_
  rotate_left 1
  · (intro w9 hS9 ρ hρ; have hc := (HP.out _ hS9).2.2.1; have c0 : w9.cell? ⟨g1, o1 + k * 4, none⟩ = some (.int .i64 f0) := (by simpa using hc 0 _ rfl); have c1 : w9.cell? ⟨g1, o1 + k * 4 + 1, none⟩ = some (.int .i64 f1) := (by simpa using hc 1 _ rfl); have c2 : w9.cell? ⟨g1, o1 + k * 4 + 2, none⟩ = some (.int .i64 f2) := (by simpa using hc 2 _ rfl); have c3 : w9.cell? ⟨g1, o1 + k * 4 + 3, none⟩ = some (.int .i64 f3) := (by simpa using hc 3 _ rfl); have r304 := (hρ _).trans e304; simp [go_sem, r304, c0, c1, c2, c3] <;> with_reducible rfl)
  intro a N; have sz := N.s sz; have df := N.d df; have e0 := N.o e0; have e1 := N.o e1; have e11 := N.o e11; have e305 := N.new
  refine wz_take (i := 7) (d := 306) (v := ?_) rfl rfl (by rw [sz]; decide) (wanted_none rfl _) (by kernel_rfl) (by kernel_rfl) (by kernel_rfl) (fun c a w h => hQ c _ _ _ w h) (by kernel_rfl) HS.out ?_ ?_
  rotate_left 1
  · (intro w9 hS9 ρ hρ; have r1 := (hρ _).trans e1; simp [go_sem, r1] <;> with_reducible rfl)
  intro a N; have sz := N.s sz; have df := N.d df; have e0 := N.o e0; have e1 := N.o e1; have e11 := N.o e11; have e305 := N.o e305; have e306 := N.new
  refine wz_take (i := 8) (d := 307) (v := ?_) rfl rfl (by rw [sz]; decide) (wanted_none rfl _) (by kernel_rfl) (by kernel_rfl) (by kernel_rfl) (fun c a w h => hQ c _ _ _ w h) (by kernel_rfl) HS.out ?_ ?_
  rotate_left 1
  · (intro w9 hS9 ρ hρ; have r306 := (hρ _).trans e306; simp [go_sem, r306] <;> with_reducible rfl)
  intro a N; have sz := N.s sz; have df := N.d df; have e0 := N.o e0; have e1 := N.o e1; have e11 := N.o e11; have e305 := N.o e305; have e307 := N.new
  refine wz_take (i := 9) (d := 308) (v := ?_) rfl rfl (by rw [sz]; decide) (wanted_none rfl _) (by kernel_rfl) (by kernel_rfl) (by kernel_rfl) (fun c a w h => hQ c _ _ _ w h) (by kernel_rfl) HS.out ?_ ?_
  rotate_left 1
  · (intro w9 hS9 ρ hρ; have r307 := (hρ _).trans e307; simp [go_sem, r307] <;> with_reducible rfl)
  intro a N; have sz := N.s sz; have df := N.d df; have e0 := N.o e0; have e1 := N.o e1; have e11 := N.o e11; have e305 := N.o e305; have e308 := N.new
  refine wz_take (i := 10) (d := 309) (v := ?_) rfl rfl (by rw [sz]; decide) (wanted_none rfl _) (by kernel_rfl) (by kernel_rfl) (by kernel_rfl) (fun c a w h => hQ c _ _ _ w h) (by kernel_rfl) HS.out ?_ ?_
  rotate_left 1
  · (intro w9 hS9 ρ hρ; have c := (HP.out _ hS9).2.1; have r308 := (hρ _).trans e308; simp [go_sem, r308, c] <;> with_reducible rfl)
  intro a N; have sz := N.s sz; have df := N.d df; have e0 := N.o e0; have e1 := N.o e1; have e11 := N.o e11; have e305 := N.o e305; have e309 := N.new
  refine wz_take (i := 11) (d := 310) (v := ?_) rfl rfl (by rw [sz]; decide) (wanted_none rfl _) (by kernel_rfl) (by kernel_rfl) (by kernel_rfl) (fun c a w h => hQ c _ _ _ w h) (by kernel_rfl) HS.out ?_ ?_
  rotate_left 1
  · (intro w9 hS9 ρ hρ; have r11 := (hρ _).trans e11; simp [go_sem, r11] <;> with_reducible rfl)
  intro a N; have sz := N.s sz; have df := N.d df; have e0 := N.o e0; have e1 := N.o e1; have e11 := N.o e11; have e305 := N.o e305; have e309 := N.o e309; have e310 := N.new
  refine wz_take (i := 12) (d := 311) (v := ?_) rfl rfl (by rw [sz]; decide) (wanted_none rfl _) (by kernel_rfl) (by kernel_rfl) (by kernel_rfl) (fun c a w h => hQ c _ _ _ w h) (by kernel_rfl) HS.out ?_ ?_
  rotate_left 1
  · (intro w9 hS9 ρ hρ; have r309 := (hρ _).trans e309; have r310 := (hρ _).trans e310; simp [go_sem, r309, r310, h2] <;> with_reducible rfl)
  intro a N; have sz := N.s sz; have df := N.d df; have e0 := N.o e0; have e1 := N.o e1; have e11 := N.o e11; have e305 := N.o e305; have e311 := N.new
  refine wz_take (i := 13) (d := 312) (v := ?_) rfl rfl (by rw [sz]; decide) (wanted_none rfl _) (by kernel_rfl) (by kernel_rfl) (by kernel_rfl) (fun c a w h => hQ c _ _ _ w h) (by kernel_rfl) HS.out ?_ ?_
  rotate_left 1
  · (intro w9 hS9 ρ hρ; have hc := (HP.out _ hS9).2.2.2; have c0 : w9.cell? ⟨g2, o2 + k * 4, none⟩ = some (.int .i64 r0) := (by simpa using hc 0 _ rfl); have c1 : w9.cell? ⟨g2, o2 + k * 4 + 1, none⟩ = some (.int .i64 r1) := (by simpa using hc 1 _ rfl); have c2 : w9.cell? ⟨g2, o2 + k * 4 + 2, none⟩ = some (.int .i64 r2) := (by simpa using hc 2 _ rfl); have c3 : w9.cell? ⟨g2, o2 + k * 4 + 3, none⟩ = some (.int .i64 r3) := (by simpa using hc 3 _ rfl); have r311 := (hρ _).trans e311; simp [go_sem, r311, c0, c1, c2, c3] <;> with_reducible rfl)
  intro a N; have sz := N.s sz; have df := N.d df; have e0 := N.o e0; have e1 := N.o e1; have e11 := N.o e11; have e305 := N.o e305; have e312 := N.new
  refine wpAnyZ_vars (i := 14) (j := 15) (m := 16) (n := 17) (d1 := 12) (d2 := 13) (t := 54) (Z := Z) (C1 := #[.int .i64 f0, .int .i64 f1, .int .i64 f2, .int .i64 f3]) (C2 := #[.int .i64 r0, .int .i64 r1, .int .i64 r2, .int .i64 r3]) (x1 := .tmp 305) (x2 := .tmp 312) rfl rfl rfl rfl rfl rfl rfl rfl rfl rfl rfl rfl rfl rfl rfl rfl (by decide) (by kernel_rfl) (by kernel_rfl) (by kernel_rfl) (by kernel_rfl) (by kernel_rfl) (by kernel_rfl) (by decide) HZ.out (by rw [hZ]; kernel_rfl) hZ hZ (by simp [Value.oneCell']) (by simp [Value.oneCell']) (by rw [sz]; decide) (by rw [sz]; decide)
    (fun p q => by rw [eval_put_ne (by decide), eval_put_ne (by decide)]; exact e305) (fun p q => by rw [eval_put_ne (by decide), eval_put_ne (by decide)]; exact e312) (fun w' kk => HS.out.trans kk (fun _ h => h.elim)) ?_
  intro h1 h2 w9 t1 t2 kk
  have N1 := Nxt.put (a := a) (v := .pointer (some ⟨h1, 0, none⟩)) (show 12 < a.tmps.size by rw [sz]; decide)
  have N2 := Nxt.put (a := a.put (some 12) (.pointer (some ⟨h1, 0, none⟩))) (v := .pointer (some ⟨h2, 0, none⟩)) (show 13 < (a.put (some 12) _).tmps.size by rw [size_put, sz]; decide)
  exact h _ w9 h1 h2 ⟨N2.size.trans (N1.size.trans sz), N2.defers.trans (N1.defers.trans df), (N2.old 0 (by decide)).trans ((N1.old 0 (by decide)).trans e0), (N2.old 1 (by decide)).trans ((N1.old 1 (by decide)).trans e1)⟩
    ((N2.old 11 (by decide)).trans ((N1.old 11 (by decide)).trans e11)) ((N2.old 12 (by decide)).trans N1.new) N2.new t1 t2 (HS.out.trans kk (fun _ h => h.elim))

set_option maxHeartbeats 4000000 in
theorem reM_cmp {g o g' o' : Nat} {a : Act} {w : World} {Q : Exit → Act → World → Prop} {k h1 h2 : Nat} {f0 : Int} {f1 : Int} {f2 : Int} {f3 : Int} {r0 : Int} {r1 : Int} {r2 : Int} {r3 : Int} (ha : FrE (.pointer (some ⟨g, o, none⟩)) (.pointer (some ⟨g', o', none⟩)) a) (e11 : a.eval (.tmp 11) = .int .i64 (k : Int)) (e12 : a.eval (.tmp 12) = .pointer (some ⟨h1, 0, none⟩)) (e13 : a.eval (.tmp 13) = .pointer (some ⟨h2, 0, none⟩)) (t1 : w.heap[h1]? = some (.cells #[.int .i64 f0, .int .i64 f1, .int .i64 f2, .int .i64 f3] 54 (0, 0))) (t2 : w.heap[h2]? = some (.cells #[.int .i64 r0, .int .i64 r1, .int .i64 r2, .int .i64 r3] 54 (0, 0)))
    (h : ∀ a' w' b, FrE (.pointer (some ⟨g, o, none⟩)) (.pointer (some ⟨g', o', none⟩)) a' → a'.eval (.tmp 11) = .int .i64 (k : Int) → a'.eval (.tmp 338) = .bool b → (b = false ↔ (((f0, f1, f2, f3) : Int × Int × Int × Int) = (r0, r1, r2, r3))) → Keep (fun _ => False) w w' → Q .normal a' w') : (rgEq 21).wp Try.prog Q a w := by
  obtain ⟨sz, df, e0, e1⟩ := ha
  have c0 : _ = some (Value.int .i64 f0) := (cell_of_row _ _ 0 _ _ _ t1).trans rfl
  have d0 : _ = some (Value.int .i64 r0) := (cell_of_row _ _ 0 _ _ _ t2).trans rfl
  have c1 : _ = some (Value.int .i64 f1) := (cell_of_row _ _ 1 _ _ _ t1).trans rfl
  have d1 : _ = some (Value.int .i64 r1) := (cell_of_row _ _ 1 _ _ _ t2).trans rfl
  have c2 : _ = some (Value.int .i64 f2) := (cell_of_row _ _ 2 _ _ _ t1).trans rfl
  have d2 : _ = some (Value.int .i64 r2) := (cell_of_row _ _ 2 _ _ _ t2).trans rfl
  have c3 : _ = some (Value.int .i64 f3) := (cell_of_row _ _ 3 _ _ _ t1).trans rfl
  have d3 : _ = some (Value.int .i64 r3) := (cell_of_row _ _ 3 _ _ _ t2).trans rfl
  clear t1 t2
  conv => arg 2; whnf
  refine wp_region_list ?_
  dsimp only
  refine tn (d := 313) (v := ?_) sz ?_ ?_
  rotate_left 1
  · (intro ρ hρ; have r12 := (hρ _).trans e12; simp [go_sem, r12] <;> with_reducible rfl)
  intro a N; have sz := N.s sz; have df := N.d df; have e0 := N.o e0; have e1 := N.o e1; have e11 := N.o e11; have e12 := N.o e12; have e13 := N.o e13; have e313 := N.new
  refine tn (d := 314) (v := ?_) sz ?_ ?_
  rotate_left 1
  · (intro ρ hρ; have r313 := (hρ _).trans e313; simp [go_sem, r313, c0] <;> with_reducible rfl)
  intro a N; have sz := N.s sz; have df := N.d df; have e0 := N.o e0; have e1 := N.o e1; have e11 := N.o e11; have e12 := N.o e12; have e13 := N.o e13; have e314 := N.new
  refine tn (d := 315) (v := ?_) sz ?_ ?_
  rotate_left 1
  · (intro ρ hρ; have r13 := (hρ _).trans e13; simp [go_sem, r13] <;> with_reducible rfl)
  intro a N; have sz := N.s sz; have df := N.d df; have e0 := N.o e0; have e1 := N.o e1; have e11 := N.o e11; have e12 := N.o e12; have e13 := N.o e13; have e314 := N.o e314; have e315 := N.new
  refine tn (d := 316) (v := ?_) sz ?_ ?_
  rotate_left 1
  · (intro ρ hρ; have r315 := (hρ _).trans e315; simp [go_sem, r315, d0] <;> with_reducible rfl)
  intro a N; have sz := N.s sz; have df := N.d df; have e0 := N.o e0; have e1 := N.o e1; have e11 := N.o e11; have e12 := N.o e12; have e13 := N.o e13; have e314 := N.o e314; have e316 := N.new
  by_cases hf0 : f0 = r0
  rotate_left 1
  · have hq : (f0 != r0) = true := by simpa using hf0
    refine tn (d := 317) (v := ?_) sz ?_ ?_
    rotate_left 1
    · (intro ρ hρ; have r314 := (hρ _).trans e314; have r316 := (hρ _).trans e316; simp [go_sem, r314, r316, hq] <;> with_reducible rfl)
    intro a N; have sz := N.s sz; have df := N.d df; have e0 := N.o e0; have e1 := N.o e1; have e11 := N.o e11; have e12 := N.o e12; have e13 := N.o e13; have e317 := N.new
    refine tn (d := 318) (v := ?_) sz ?_ ?_
    rotate_left 1
    · (intro ρ hρ; have r317 := (hρ _).trans e317; simp [go_sem, r317] <;> with_reducible rfl)
    intro a N; have sz := N.s sz; have df := N.d df; have e0 := N.o e0; have e1 := N.o e1; have e11 := N.o e11; have e12 := N.o e12; have e13 := N.o e13; have e318 := N.new
    refine sk (d := 319) sz (wanted_is rfl rfl e318 rfl) ?_
    intro a N; have sz := N.s sz; have df := N.d df; have e0 := N.o e0; have e1 := N.o e1; have e11 := N.o e11; have e12 := N.o e12; have e13 := N.o e13; have e318 := N.o e318; have e319 := N.new
    refine sk (d := 320) sz (wanted_is rfl rfl e318 rfl) ?_
    intro a N; have sz := N.s sz; have df := N.d df; have e0 := N.o e0; have e1 := N.o e1; have e11 := N.o e11; have e12 := N.o e12; have e13 := N.o e13; have e318 := N.o e318; have e320 := N.new
    refine sk (d := 321) sz (wanted_is rfl rfl e318 rfl) ?_
    intro a N; have sz := N.s sz; have df := N.d df; have e0 := N.o e0; have e1 := N.o e1; have e11 := N.o e11; have e12 := N.o e12; have e13 := N.o e13; have e318 := N.o e318; have e320 := N.o e320; have e321 := N.new
    refine sk (d := 322) sz (wanted_is rfl rfl e318 rfl) ?_
    intro a N; have sz := N.s sz; have df := N.d df; have e0 := N.o e0; have e1 := N.o e1; have e11 := N.o e11; have e12 := N.o e12; have e13 := N.o e13; have e318 := N.o e318; have e320 := N.o e320; have e322 := N.new
    refine sk (d := 323) sz (wanted_is rfl rfl e318 rfl) ?_
    intro a N; have sz := N.s sz; have df := N.d df; have e0 := N.o e0; have e1 := N.o e1; have e11 := N.o e11; have e12 := N.o e12; have e13 := N.o e13; have e318 := N.o e318; have e323 := N.new
    refine tn (d := 324) (v := ?_) sz ?_ ?_
    rotate_left 1
    · (intro ρ hρ; have rc : ∀ v, ρ (.const v) = v := fun v => hρ _; have r318 := (hρ _).trans e318; have r323 := (hρ _).trans e323; simp [go_sem, rc, r318, r323] <;> with_reducible rfl)
    intro a N; have sz := N.s sz; have df := N.d df; have e0 := N.o e0; have e1 := N.o e1; have e11 := N.o e11; have e12 := N.o e12; have e13 := N.o e13; have e324 := N.new
    refine tn (d := 325) (v := ?_) sz ?_ ?_
    rotate_left 1
    · (intro ρ hρ; have r324 := (hρ _).trans e324; simp [go_sem, r324] <;> with_reducible rfl)
    intro a N; have sz := N.s sz; have df := N.d df; have e0 := N.o e0; have e1 := N.o e1; have e11 := N.o e11; have e12 := N.o e12; have e13 := N.o e13; have e325 := N.new
    refine sk (d := 326) sz (wanted_is rfl rfl e325 rfl) ?_
    intro a N; have sz := N.s sz; have df := N.d df; have e0 := N.o e0; have e1 := N.o e1; have e11 := N.o e11; have e12 := N.o e12; have e13 := N.o e13; have e325 := N.o e325; have e326 := N.new
    refine sk (d := 327) sz (wanted_is rfl rfl e325 rfl) ?_
    intro a N; have sz := N.s sz; have df := N.d df; have e0 := N.o e0; have e1 := N.o e1; have e11 := N.o e11; have e12 := N.o e12; have e13 := N.o e13; have e325 := N.o e325; have e327 := N.new
    refine sk (d := 328) sz (wanted_is rfl rfl e325 rfl) ?_
    intro a N; have sz := N.s sz; have df := N.d df; have e0 := N.o e0; have e1 := N.o e1; have e11 := N.o e11; have e12 := N.o e12; have e13 := N.o e13; have e325 := N.o e325; have e327 := N.o e327; have e328 := N.new
    refine sk (d := 329) sz (wanted_is rfl rfl e325 rfl) ?_
    intro a N; have sz := N.s sz; have df := N.d df; have e0 := N.o e0; have e1 := N.o e1; have e11 := N.o e11; have e12 := N.o e12; have e13 := N.o e13; have e325 := N.o e325; have e327 := N.o e327; have e329 := N.new
    refine sk (d := 330) sz (wanted_is rfl rfl e325 rfl) ?_
    intro a N; have sz := N.s sz; have df := N.d df; have e0 := N.o e0; have e1 := N.o e1; have e11 := N.o e11; have e12 := N.o e12; have e13 := N.o e13; have e325 := N.o e325; have e330 := N.new
    refine tn (d := 331) (v := ?_) sz ?_ ?_
    rotate_left 1
    · (intro ρ hρ; have rc : ∀ v, ρ (.const v) = v := fun v => hρ _; have r325 := (hρ _).trans e325; have r330 := (hρ _).trans e330; simp [go_sem, rc, r325, r330] <;> with_reducible rfl)
    intro a N; have sz := N.s sz; have df := N.d df; have e0 := N.o e0; have e1 := N.o e1; have e11 := N.o e11; have e12 := N.o e12; have e13 := N.o e13; have e331 := N.new
    refine tn (d := 332) (v := ?_) sz ?_ ?_
    rotate_left 1
    · (intro ρ hρ; have r331 := (hρ _).trans e331; simp [go_sem, r331] <;> with_reducible rfl)
    intro a N; have sz := N.s sz; have df := N.d df; have e0 := N.o e0; have e1 := N.o e1; have e11 := N.o e11; have e12 := N.o e12; have e13 := N.o e13; have e332 := N.new
    refine sk (d := 333) sz (wanted_is rfl rfl e332 rfl) ?_
    intro a N; have sz := N.s sz; have df := N.d df; have e0 := N.o e0; have e1 := N.o e1; have e11 := N.o e11; have e13 := N.o e13; have e332 := N.o e332; have e333 := N.new
    refine sk (d := 334) sz (wanted_is rfl rfl e332 rfl) ?_
    intro a N; have sz := N.s sz; have df := N.d df; have e0 := N.o e0; have e1 := N.o e1; have e11 := N.o e11; have e13 := N.o e13; have e332 := N.o e332; have e334 := N.new
    refine sk (d := 335) sz (wanted_is rfl rfl e332 rfl) ?_
    intro a N; have sz := N.s sz; have df := N.d df; have e0 := N.o e0; have e1 := N.o e1; have e11 := N.o e11; have e332 := N.o e332; have e334 := N.o e334; have e335 := N.new
    refine sk (d := 336) sz (wanted_is rfl rfl e332 rfl) ?_
    intro a N; have sz := N.s sz; have df := N.d df; have e0 := N.o e0; have e1 := N.o e1; have e11 := N.o e11; have e332 := N.o e332; have e334 := N.o e334; have e336 := N.new
    refine sk (d := 337) sz (wanted_is rfl rfl e332 rfl) ?_
    intro a N; have sz := N.s sz; have df := N.d df; have e0 := N.o e0; have e1 := N.o e1; have e11 := N.o e11; have e332 := N.o e332; have e337 := N.new
    refine tn (d := 338) (v := ?_) sz ?_ ?_
    rotate_left 1
    · (intro ρ hρ; have rc : ∀ v, ρ (.const v) = v := fun v => hρ _; have r332 := (hρ _).trans e332; have r337 := (hρ _).trans e337; simp [go_sem, rc, r332, r337] <;> with_reducible rfl)
    intro a N; have sz := N.s sz; have df := N.d df; have e0 := N.o e0; have e1 := N.o e1; have e11 := N.o e11; have e338 := N.new
    exact h _ w true ⟨sz, df, e0, e1⟩ e11 e338 ⟨fun h => (by cases h), fun h => absurd (congrArg (fun z => z.1) h) hf0⟩ (Keep.refl _ w)
  subst hf0
  refine tn (d := 317) (v := ?_) sz ?_ ?_
  rotate_left 1
  · (intro ρ hρ; have r314 := (hρ _).trans e314; have r316 := (hρ _).trans e316; simp [go_sem, r314, r316] <;> with_reducible rfl)
  intro a N; have sz := N.s sz; have df := N.d df; have e0 := N.o e0; have e1 := N.o e1; have e11 := N.o e11; have e12 := N.o e12; have e13 := N.o e13; have e317 := N.new
  refine tn (d := 318) (v := ?_) sz ?_ ?_
  rotate_left 1
  · (intro ρ hρ; have r317 := (hρ _).trans e317; simp [go_sem, r317] <;> with_reducible rfl)
  intro a N; have sz := N.s sz; have df := N.d df; have e0 := N.o e0; have e1 := N.o e1; have e11 := N.o e11; have e12 := N.o e12; have e13 := N.o e13; have e318 := N.new
  refine tk (d := 319) (v := ?_) sz (wanted_is rfl rfl e318 rfl) ?_ ?_
  rotate_left 1
  · (intro ρ hρ; have r12 := (hρ _).trans e12; simp [go_sem, r12] <;> with_reducible rfl)
  intro a N; have sz := N.s sz; have df := N.d df; have e0 := N.o e0; have e1 := N.o e1; have e11 := N.o e11; have e12 := N.o e12; have e13 := N.o e13; have e318 := N.o e318; have e319 := N.new
  refine tk (d := 320) (v := ?_) sz (wanted_is rfl rfl e318 rfl) ?_ ?_
  rotate_left 1
  · (intro ρ hρ; have r319 := (hρ _).trans e319; simp [go_sem, r319, c1] <;> with_reducible rfl)
  intro a N; have sz := N.s sz; have df := N.d df; have e0 := N.o e0; have e1 := N.o e1; have e11 := N.o e11; have e12 := N.o e12; have e13 := N.o e13; have e318 := N.o e318; have e320 := N.new
  refine tk (d := 321) (v := ?_) sz (wanted_is rfl rfl e318 rfl) ?_ ?_
  rotate_left 1
  · (intro ρ hρ; have r13 := (hρ _).trans e13; simp [go_sem, r13] <;> with_reducible rfl)
  intro a N; have sz := N.s sz; have df := N.d df; have e0 := N.o e0; have e1 := N.o e1; have e11 := N.o e11; have e12 := N.o e12; have e13 := N.o e13; have e318 := N.o e318; have e320 := N.o e320; have e321 := N.new
  refine tk (d := 322) (v := ?_) sz (wanted_is rfl rfl e318 rfl) ?_ ?_
  rotate_left 1
  · (intro ρ hρ; have r321 := (hρ _).trans e321; simp [go_sem, r321, d1] <;> with_reducible rfl)
  intro a N; have sz := N.s sz; have df := N.d df; have e0 := N.o e0; have e1 := N.o e1; have e11 := N.o e11; have e12 := N.o e12; have e13 := N.o e13; have e318 := N.o e318; have e320 := N.o e320; have e322 := N.new
  by_cases hf1 : f1 = r1
  rotate_left 1
  · have hq : (f1 != r1) = true := by simpa using hf1
    refine tk (d := 323) (v := ?_) sz (wanted_is rfl rfl e318 rfl) ?_ ?_
    rotate_left 1
    · (intro ρ hρ; have r320 := (hρ _).trans e320; have r322 := (hρ _).trans e322; simp [go_sem, r320, r322, hq] <;> with_reducible rfl)
    intro a N; have sz := N.s sz; have df := N.d df; have e0 := N.o e0; have e1 := N.o e1; have e11 := N.o e11; have e12 := N.o e12; have e13 := N.o e13; have e318 := N.o e318; have e323 := N.new
    refine tn (d := 324) (v := ?_) sz ?_ ?_
    rotate_left 1
    · (intro ρ hρ; have rc : ∀ v, ρ (.const v) = v := fun v => hρ _; have r318 := (hρ _).trans e318; have r323 := (hρ _).trans e323; simp [go_sem, rc, r318, r323] <;> with_reducible rfl)
    intro a N; have sz := N.s sz; have df := N.d df; have e0 := N.o e0; have e1 := N.o e1; have e11 := N.o e11; have e12 := N.o e12; have e13 := N.o e13; have e324 := N.new
    refine tn (d := 325) (v := ?_) sz ?_ ?_
    rotate_left 1
    · (intro ρ hρ; have r324 := (hρ _).trans e324; simp [go_sem, r324] <;> with_reducible rfl)
    intro a N; have sz := N.s sz; have df := N.d df; have e0 := N.o e0; have e1 := N.o e1; have e11 := N.o e11; have e12 := N.o e12; have e13 := N.o e13; have e325 := N.new
    refine sk (d := 326) sz (wanted_is rfl rfl e325 rfl) ?_
    intro a N; have sz := N.s sz; have df := N.d df; have e0 := N.o e0; have e1 := N.o e1; have e11 := N.o e11; have e12 := N.o e12; have e13 := N.o e13; have e325 := N.o e325; have e326 := N.new
    refine sk (d := 327) sz (wanted_is rfl rfl e325 rfl) ?_
    intro a N; have sz := N.s sz; have df := N.d df; have e0 := N.o e0; have e1 := N.o e1; have e11 := N.o e11; have e12 := N.o e12; have e13 := N.o e13; have e325 := N.o e325; have e327 := N.new
    refine sk (d := 328) sz (wanted_is rfl rfl e325 rfl) ?_
    intro a N; have sz := N.s sz; have df := N.d df; have e0 := N.o e0; have e1 := N.o e1; have e11 := N.o e11; have e12 := N.o e12; have e13 := N.o e13; have e325 := N.o e325; have e327 := N.o e327; have e328 := N.new
    refine sk (d := 329) sz (wanted_is rfl rfl e325 rfl) ?_
    intro a N; have sz := N.s sz; have df := N.d df; have e0 := N.o e0; have e1 := N.o e1; have e11 := N.o e11; have e12 := N.o e12; have e13 := N.o e13; have e325 := N.o e325; have e327 := N.o e327; have e329 := N.new
    refine sk (d := 330) sz (wanted_is rfl rfl e325 rfl) ?_
    intro a N; have sz := N.s sz; have df := N.d df; have e0 := N.o e0; have e1 := N.o e1; have e11 := N.o e11; have e12 := N.o e12; have e13 := N.o e13; have e325 := N.o e325; have e330 := N.new
    refine tn (d := 331) (v := ?_) sz ?_ ?_
    rotate_left 1
    · (intro ρ hρ; have rc : ∀ v, ρ (.const v) = v := fun v => hρ _; have r325 := (hρ _).trans e325; have r330 := (hρ _).trans e330; simp [go_sem, rc, r325, r330] <;> with_reducible rfl)
    intro a N; have sz := N.s sz; have df := N.d df; have e0 := N.o e0; have e1 := N.o e1; have e11 := N.o e11; have e12 := N.o e12; have e13 := N.o e13; have e331 := N.new
    refine tn (d := 332) (v := ?_) sz ?_ ?_
    rotate_left 1
    · (intro ρ hρ; have r331 := (hρ _).trans e331; simp [go_sem, r331] <;> with_reducible rfl)
    intro a N; have sz := N.s sz; have df := N.d df; have e0 := N.o e0; have e1 := N.o e1; have e11 := N.o e11; have e12 := N.o e12; have e13 := N.o e13; have e332 := N.new
    refine sk (d := 333) sz (wanted_is rfl rfl e332 rfl) ?_
    intro a N; have sz := N.s sz; have df := N.d df; have e0 := N.o e0; have e1 := N.o e1; have e11 := N.o e11; have e13 := N.o e13; have e332 := N.o e332; have e333 := N.new
    refine sk (d := 334) sz (wanted_is rfl rfl e332 rfl) ?_
    intro a N; have sz := N.s sz; have df := N.d df; have e0 := N.o e0; have e1 := N.o e1; have e11 := N.o e11; have e13 := N.o e13; have e332 := N.o e332; have e334 := N.new
    refine sk (d := 335) sz (wanted_is rfl rfl e332 rfl) ?_
    intro a N; have sz := N.s sz; have df := N.d df; have e0 := N.o e0; have e1 := N.o e1; have e11 := N.o e11; have e332 := N.o e332; have e334 := N.o e334; have e335 := N.new
    refine sk (d := 336) sz (wanted_is rfl rfl e332 rfl) ?_
    intro a N; have sz := N.s sz; have df := N.d df; have e0 := N.o e0; have e1 := N.o e1; have e11 := N.o e11; have e332 := N.o e332; have e334 := N.o e334; have e336 := N.new
    refine sk (d := 337) sz (wanted_is rfl rfl e332 rfl) ?_
    intro a N; have sz := N.s sz; have df := N.d df; have e0 := N.o e0; have e1 := N.o e1; have e11 := N.o e11; have e332 := N.o e332; have e337 := N.new
    refine tn (d := 338) (v := ?_) sz ?_ ?_
    rotate_left 1
    · (intro ρ hρ; have rc : ∀ v, ρ (.const v) = v := fun v => hρ _; have r332 := (hρ _).trans e332; have r337 := (hρ _).trans e337; simp [go_sem, rc, r332, r337] <;> with_reducible rfl)
    intro a N; have sz := N.s sz; have df := N.d df; have e0 := N.o e0; have e1 := N.o e1; have e11 := N.o e11; have e338 := N.new
    exact h _ w true ⟨sz, df, e0, e1⟩ e11 e338 ⟨fun h => (by cases h), fun h => absurd (congrArg (fun z => z.2.1) h) hf1⟩ (Keep.refl _ w)
  subst hf1
  refine tk (d := 323) (v := ?_) sz (wanted_is rfl rfl e318 rfl) ?_ ?_
  rotate_left 1
  · (intro ρ hρ; have r320 := (hρ _).trans e320; have r322 := (hρ _).trans e322; simp [go_sem, r320, r322] <;> with_reducible rfl)
  intro a N; have sz := N.s sz; have df := N.d df; have e0 := N.o e0; have e1 := N.o e1; have e11 := N.o e11; have e12 := N.o e12; have e13 := N.o e13; have e318 := N.o e318; have e323 := N.new
  refine tn (d := 324) (v := ?_) sz ?_ ?_
  rotate_left 1
  · (intro ρ hρ; have rc : ∀ v, ρ (.const v) = v := fun v => hρ _; have r318 := (hρ _).trans e318; have r323 := (hρ _).trans e323; simp [go_sem, rc, r318, r323] <;> with_reducible rfl)
  intro a N; have sz := N.s sz; have df := N.d df; have e0 := N.o e0; have e1 := N.o e1; have e11 := N.o e11; have e12 := N.o e12; have e13 := N.o e13; have e324 := N.new
  refine tn (d := 325) (v := ?_) sz ?_ ?_
  rotate_left 1
  · (intro ρ hρ; have r324 := (hρ _).trans e324; simp [go_sem, r324] <;> with_reducible rfl)
  intro a N; have sz := N.s sz; have df := N.d df; have e0 := N.o e0; have e1 := N.o e1; have e11 := N.o e11; have e12 := N.o e12; have e13 := N.o e13; have e325 := N.new
  refine tk (d := 326) (v := ?_) sz (wanted_is rfl rfl e325 rfl) ?_ ?_
  rotate_left 1
  · (intro ρ hρ; have r12 := (hρ _).trans e12; simp [go_sem, r12] <;> with_reducible rfl)
  intro a N; have sz := N.s sz; have df := N.d df; have e0 := N.o e0; have e1 := N.o e1; have e11 := N.o e11; have e12 := N.o e12; have e13 := N.o e13; have e325 := N.o e325; have e326 := N.new
  refine tk (d := 327) (v := ?_) sz (wanted_is rfl rfl e325 rfl) ?_ ?_
  rotate_left 1
  · (intro ρ hρ; have r326 := (hρ _).trans e326; simp [go_sem, r326, c2] <;> with_reducible rfl)
  intro a N; have sz := N.s sz; have df := N.d df; have e0 := N.o e0; have e1 := N.o e1; have e11 := N.o e11; have e12 := N.o e12; have e13 := N.o e13; have e325 := N.o e325; have e327 := N.new
  refine tk (d := 328) (v := ?_) sz (wanted_is rfl rfl e325 rfl) ?_ ?_
  rotate_left 1
  · (intro ρ hρ; have r13 := (hρ _).trans e13; simp [go_sem, r13] <;> with_reducible rfl)
  intro a N; have sz := N.s sz; have df := N.d df; have e0 := N.o e0; have e1 := N.o e1; have e11 := N.o e11; have e12 := N.o e12; have e13 := N.o e13; have e325 := N.o e325; have e327 := N.o e327; have e328 := N.new
  refine tk (d := 329) (v := ?_) sz (wanted_is rfl rfl e325 rfl) ?_ ?_
  rotate_left 1
  · (intro ρ hρ; have r328 := (hρ _).trans e328; simp [go_sem, r328, d2] <;> with_reducible rfl)
  intro a N; have sz := N.s sz; have df := N.d df; have e0 := N.o e0; have e1 := N.o e1; have e11 := N.o e11; have e12 := N.o e12; have e13 := N.o e13; have e325 := N.o e325; have e327 := N.o e327; have e329 := N.new
  by_cases hf2 : f2 = r2
  rotate_left 1
  · have hq : (f2 != r2) = true := by simpa using hf2
    refine tk (d := 330) (v := ?_) sz (wanted_is rfl rfl e325 rfl) ?_ ?_
    rotate_left 1
    · (intro ρ hρ; have r327 := (hρ _).trans e327; have r329 := (hρ _).trans e329; simp [go_sem, r327, r329, hq] <;> with_reducible rfl)
    intro a N; have sz := N.s sz; have df := N.d df; have e0 := N.o e0; have e1 := N.o e1; have e11 := N.o e11; have e12 := N.o e12; have e13 := N.o e13; have e325 := N.o e325; have e330 := N.new
    refine tn (d := 331) (v := ?_) sz ?_ ?_
    rotate_left 1
    · (intro ρ hρ; have rc : ∀ v, ρ (.const v) = v := fun v => hρ _; have r325 := (hρ _).trans e325; have r330 := (hρ _).trans e330; simp [go_sem, rc, r325, r330] <;> with_reducible rfl)
    intro a N; have sz := N.s sz; have df := N.d df; have e0 := N.o e0; have e1 := N.o e1; have e11 := N.o e11; have e12 := N.o e12; have e13 := N.o e13; have e331 := N.new
    refine tn (d := 332) (v := ?_) sz ?_ ?_
    rotate_left 1
    · (intro ρ hρ; have r331 := (hρ _).trans e331; simp [go_sem, r331] <;> with_reducible rfl)
    intro a N; have sz := N.s sz; have df := N.d df; have e0 := N.o e0; have e1 := N.o e1; have e11 := N.o e11; have e12 := N.o e12; have e13 := N.o e13; have e332 := N.new
    refine sk (d := 333) sz (wanted_is rfl rfl e332 rfl) ?_
    intro a N; have sz := N.s sz; have df := N.d df; have e0 := N.o e0; have e1 := N.o e1; have e11 := N.o e11; have e13 := N.o e13; have e332 := N.o e332; have e333 := N.new
    refine sk (d := 334) sz (wanted_is rfl rfl e332 rfl) ?_
    intro a N; have sz := N.s sz; have df := N.d df; have e0 := N.o e0; have e1 := N.o e1; have e11 := N.o e11; have e13 := N.o e13; have e332 := N.o e332; have e334 := N.new
    refine sk (d := 335) sz (wanted_is rfl rfl e332 rfl) ?_
    intro a N; have sz := N.s sz; have df := N.d df; have e0 := N.o e0; have e1 := N.o e1; have e11 := N.o e11; have e332 := N.o e332; have e334 := N.o e334; have e335 := N.new
    refine sk (d := 336) sz (wanted_is rfl rfl e332 rfl) ?_
    intro a N; have sz := N.s sz; have df := N.d df; have e0 := N.o e0; have e1 := N.o e1; have e11 := N.o e11; have e332 := N.o e332; have e334 := N.o e334; have e336 := N.new
    refine sk (d := 337) sz (wanted_is rfl rfl e332 rfl) ?_
    intro a N; have sz := N.s sz; have df := N.d df; have e0 := N.o e0; have e1 := N.o e1; have e11 := N.o e11; have e332 := N.o e332; have e337 := N.new
    refine tn (d := 338) (v := ?_) sz ?_ ?_
    rotate_left 1
    · (intro ρ hρ; have rc : ∀ v, ρ (.const v) = v := fun v => hρ _; have r332 := (hρ _).trans e332; have r337 := (hρ _).trans e337; simp [go_sem, rc, r332, r337] <;> with_reducible rfl)
    intro a N; have sz := N.s sz; have df := N.d df; have e0 := N.o e0; have e1 := N.o e1; have e11 := N.o e11; have e338 := N.new
    exact h _ w true ⟨sz, df, e0, e1⟩ e11 e338 ⟨fun h => (by cases h), fun h => absurd (congrArg (fun z => z.2.2.1) h) hf2⟩ (Keep.refl _ w)
  subst hf2
  refine tk (d := 330) (v := ?_) sz (wanted_is rfl rfl e325 rfl) ?_ ?_
  rotate_left 1
  · (intro ρ hρ; have r327 := (hρ _).trans e327; have r329 := (hρ _).trans e329; simp [go_sem, r327, r329] <;> with_reducible rfl)
  intro a N; have sz := N.s sz; have df := N.d df; have e0 := N.o e0; have e1 := N.o e1; have e11 := N.o e11; have e12 := N.o e12; have e13 := N.o e13; have e325 := N.o e325; have e330 := N.new
  refine tn (d := 331) (v := ?_) sz ?_ ?_
  rotate_left 1
  · (intro ρ hρ; have rc : ∀ v, ρ (.const v) = v := fun v => hρ _; have r325 := (hρ _).trans e325; have r330 := (hρ _).trans e330; simp [go_sem, rc, r325, r330] <;> with_reducible rfl)
  intro a N; have sz := N.s sz; have df := N.d df; have e0 := N.o e0; have e1 := N.o e1; have e11 := N.o e11; have e12 := N.o e12; have e13 := N.o e13; have e331 := N.new
  refine tn (d := 332) (v := ?_) sz ?_ ?_
  rotate_left 1
  · (intro ρ hρ; have r331 := (hρ _).trans e331; simp [go_sem, r331] <;> with_reducible rfl)
  intro a N; have sz := N.s sz; have df := N.d df; have e0 := N.o e0; have e1 := N.o e1; have e11 := N.o e11; have e12 := N.o e12; have e13 := N.o e13; have e332 := N.new
  refine tk (d := 333) (v := ?_) sz (wanted_is rfl rfl e332 rfl) ?_ ?_
  rotate_left 1
  · (intro ρ hρ; have r12 := (hρ _).trans e12; simp [go_sem, r12] <;> with_reducible rfl)
  intro a N; have sz := N.s sz; have df := N.d df; have e0 := N.o e0; have e1 := N.o e1; have e11 := N.o e11; have e13 := N.o e13; have e332 := N.o e332; have e333 := N.new
  refine tk (d := 334) (v := ?_) sz (wanted_is rfl rfl e332 rfl) ?_ ?_
  rotate_left 1
  · (intro ρ hρ; have r333 := (hρ _).trans e333; simp [go_sem, r333, c3] <;> with_reducible rfl)
  intro a N; have sz := N.s sz; have df := N.d df; have e0 := N.o e0; have e1 := N.o e1; have e11 := N.o e11; have e13 := N.o e13; have e332 := N.o e332; have e334 := N.new
  refine tk (d := 335) (v := ?_) sz (wanted_is rfl rfl e332 rfl) ?_ ?_
  rotate_left 1
  · (intro ρ hρ; have r13 := (hρ _).trans e13; simp [go_sem, r13] <;> with_reducible rfl)
  intro a N; have sz := N.s sz; have df := N.d df; have e0 := N.o e0; have e1 := N.o e1; have e11 := N.o e11; have e332 := N.o e332; have e334 := N.o e334; have e335 := N.new
  refine tk (d := 336) (v := ?_) sz (wanted_is rfl rfl e332 rfl) ?_ ?_
  rotate_left 1
  · (intro ρ hρ; have r335 := (hρ _).trans e335; simp [go_sem, r335, d3] <;> with_reducible rfl)
  intro a N; have sz := N.s sz; have df := N.d df; have e0 := N.o e0; have e1 := N.o e1; have e11 := N.o e11; have e332 := N.o e332; have e334 := N.o e334; have e336 := N.new
  by_cases hf3 : f3 = r3
  rotate_left 1
  · have hq : (f3 != r3) = true := by simpa using hf3
    refine tk (d := 337) (v := ?_) sz (wanted_is rfl rfl e332 rfl) ?_ ?_
    rotate_left 1
    · (intro ρ hρ; have r334 := (hρ _).trans e334; have r336 := (hρ _).trans e336; simp [go_sem, r334, r336, hq] <;> with_reducible rfl)
    intro a N; have sz := N.s sz; have df := N.d df; have e0 := N.o e0; have e1 := N.o e1; have e11 := N.o e11; have e332 := N.o e332; have e337 := N.new
    refine tn (d := 338) (v := ?_) sz ?_ ?_
    rotate_left 1
    · (intro ρ hρ; have rc : ∀ v, ρ (.const v) = v := fun v => hρ _; have r332 := (hρ _).trans e332; have r337 := (hρ _).trans e337; simp [go_sem, rc, r332, r337] <;> with_reducible rfl)
    intro a N; have sz := N.s sz; have df := N.d df; have e0 := N.o e0; have e1 := N.o e1; have e11 := N.o e11; have e338 := N.new
    exact h _ w true ⟨sz, df, e0, e1⟩ e11 e338 ⟨fun h => (by cases h), fun h => absurd (congrArg (fun z => z.2.2.2) h) hf3⟩ (Keep.refl _ w)
  subst hf3
  refine tk (d := 337) (v := ?_) sz (wanted_is rfl rfl e332 rfl) ?_ ?_
  rotate_left 1
  · (intro ρ hρ; have r334 := (hρ _).trans e334; have r336 := (hρ _).trans e336; simp [go_sem, r334, r336] <;> with_reducible rfl)
  intro a N; have sz := N.s sz; have df := N.d df; have e0 := N.o e0; have e1 := N.o e1; have e11 := N.o e11; have e332 := N.o e332; have e337 := N.new
  refine tn (d := 338) (v := ?_) sz ?_ ?_
  rotate_left 1
  · (intro ρ hρ; have rc : ∀ v, ρ (.const v) = v := fun v => hρ _; have r332 := (hρ _).trans e332; have r337 := (hρ _).trans e337; simp [go_sem, rc, r332, r337] <;> with_reducible rfl)
  intro a N; have sz := N.s sz; have df := N.d df; have e0 := N.o e0; have e1 := N.o e1; have e11 := N.o e11; have e338 := N.new
  exact h _ w false ⟨sz, df, e0, e1⟩ e11 e338 ⟨fun _ => rfl, fun _ => rfl⟩ (Keep.refl _ w)

theorem reM_loop {g o g' o' n d1 d2 : Nat} {w0 : World} {b1 b2 : Option Addr} {xs ys : List (Int × Int × Int × Int)} {Pb Qb : Nat → Prop} {Q : Exit → Act → World → Prop} (hQ : PanicOnly Q) (hX : LAt eMob Pb w0 (.slice b1 n d1) xs) (hY : LAt eMob Qb w0 (.slice b2 n d2) ys) (hn : n = xs.length) (hm : n = ys.length)
    (HP : Hid (∀ w', Keep (fun _ => False) w0 w' → w'.cell? ⟨g, o + 5, none⟩ = some (.slice b1 n d1) ∧ w'.cell? ⟨g', o' + 5, none⟩ = some (.slice b2 n d2)))
    (hret : ∀ a w, FrE (.pointer (some ⟨g, o, none⟩)) (.pointer (some ⟨g', o', none⟩)) a → a.eval (.tmp 4) = .bool false → Keep (fun _ => False) w0 w → xs ≠ ys → Q .ret a w)
    (hdone : ∀ a w, FrE (.pointer (some ⟨g, o, none⟩)) (.pointer (some ⟨g', o', none⟩)) a → Keep (fun _ => False) w0 w → xs = ys → Q .normal a w)
    {a : Act} {w : World} (ha : FrE (.pointer (some ⟨g, o, none⟩)) (.pointer (some ⟨g', o', none⟩)) a) (hi : a.eval (.tmp 11) = .int .i64 0) (hk : Keep (fun _ => False) w0 w) :
    (Code.block 4 (Code.loop (((rgEq 18).seq (Code.cond (.tmp 296) .skip (.exit 4))).seq ((Code.block 5 ((rgEq 20).seq ((rgEq 21).seq (Code.cond (.tmp 338) ((rgEq 22).seq .ret) .skip)))).seq (rgEq 19))))).wp Try.prog Q a w := by
  have hcap : (n : Int) ≤ 9223372036854775807 := by obtain ⟨_, _, e, _, h9, _⟩ := hX; simp only [Value.slice.injEq] at e; obtain ⟨_, h8, _⟩ := e; have := ‹_ ≤ maxLen›; unfold maxLen at *; omega
  refine eqLoop (i := 11) (c1 := 296) (c2 := 338) (RR := rgEq 22) (by rw [← hn, ← hm]) hQ (fun a w k Q ha hi hk h => reM_cond (n := n) ha hi (HP.out _ hk).1 (fun a' ha' hi' hc' => h a' ha' hi' (by rw [hc', hn]))) ?_ (fun a w Q ha h => reM_ret ha h) (fun a w k Q ha hi hlt h => reM_post ha hi (by omega) h) hret hdone ha hi hk
  intro a w k x y Q hQ ha hi hk hx hy h
  have hkn : k < n := by have := (List.getElem?_eq_some_iff.1 hx).1; omega
  obtain ⟨g1, o1, cs1, rfl, hg1, _, hH1, hr1⟩ := (hX.keep hk (fun _ _ _ h => h)).get k x hx
  obtain ⟨g2, o2, cs2, rfl, hg2, _, hH2, hr2⟩ := (hY.keep hk (fun _ _ _ h => h)).get k y hy
  obtain ⟨f0, f1, f2, f3⟩ := x
  obtain ⟨r0, r1, r2, r3⟩ := y
  have hcs1 : cs1 = [.int .i64 f0, .int .i64 f1, .int .i64 f2, .int .i64 f3] := hH1
  have hcs2 : cs2 = [.int .i64 r0, .int .i64 r1, .int .i64 r2, .int .i64 r3] := hH2
  subst hcs1 hcs2
  have HPP : Hid (∀ w', Keep (fun _ => False) w w' → w'.cell? ⟨g, o + 5, none⟩ = some (.slice (some ⟨g1, o1, none⟩) n d1) ∧ w'.cell? ⟨g', o' + 5, none⟩ = some (.slice (some ⟨g2, o2, none⟩) n d2) ∧ w'.rangeAt g1 (o1 + k * 4) _ ∧ w'.rangeAt g2 (o2 + k * 4) _) := Lib.hid (fun w' kk => ⟨(HP.out _ (hk.trans kk (fun _ h => h.elim))).1, (HP.out _ (hk.trans kk (fun _ h => h.elim))).2, rangeAt_keep hr1 kk hg1 (fun h => h), rangeAt_keep hr2 kk hg2 (fun h => h)⟩)
  refine wp_seq (reM_asg (n := n) (fun c a d v w h => hQ c a d v w h) ha hi hkn hkn HPP (fun a1 w1 h1 h2 ha1 hi1 ex1 ey1 t1 t2 k1 => ?_))
  refine wp_seq (reM_cmp ha1 hi1 ex1 ey1 t1 t2 (fun a2 w2 b ha2 hi2 hb2 hiff k2 => ?_))
  exact h a2 w2 b ha2 hi2 hb2 hiff ((hk.trans k1 (fun _ h => h.elim)).trans k2 (fun _ h => h.elim))

end Go.Proofs.Ytpefkellcigpkaa.Cd
/- codec: the reference's comparison: its loop over Houses. (made by tools/genre2.py) -/
namespace Go.Proofs.Ytpefkellcigpkaa.Cd
open Go.RowKit Go.Deep Go.Proofs.Ytpefkellcigpkaa
set_option maxRecDepth 100000

theorem reH_cond {g o g' o' : Nat} {a : Act} {w : World} {Q : Exit → Act → World → Prop} {k n d : Nat} {b : Option Addr} (ha : FrE (.pointer (some ⟨g, o, none⟩)) (.pointer (some ⟨g', o', none⟩)) a) (e14 : a.eval (.tmp 14) = .int .i64 (k : Int)) (c : w.cell? ⟨g, o + 6, none⟩ = some (.slice b n d))
    (h : ∀ a', FrE (.pointer (some ⟨g, o, none⟩)) (.pointer (some ⟨g', o', none⟩)) a' → a'.eval (.tmp 14) = .int .i64 (k : Int) → a'.eval (.tmp 345) = .bool (decide (k < n)) → Q .normal a' w) : (rgEq 24).wp Try.prog Q a w := by
  obtain ⟨sz, df, e0, e1⟩ := ha
  conv => arg 2; whnf
  refine wp_region_list ?_
  dsimp only
  refine tn (d := 339) (v := ?_) sz ?_ ?_
  rotate_left 1
  · (intro ρ hρ; have r14 := (hρ _).trans e14; simp [go_sem, r14] <;> with_reducible rfl)
  intro a N; have sz := N.s sz; have df := N.d df; have e0 := N.o e0; have e1 := N.o e1; have e14 := N.o e14; have e339 := N.new
  refine tn (d := 340) (v := ?_) sz ?_ ?_
  rotate_left 1
  · (intro ρ hρ; have r0 := (hρ _).trans e0; simp [go_sem, r0] <;> with_reducible rfl)
  intro a N; have sz := N.s sz; have df := N.d df; have e0 := N.o e0; have e1 := N.o e1; have e14 := N.o e14; have e339 := N.o e339; have e340 := N.new
  refine tn (d := 341) (v := ?_) sz ?_ ?_
  rotate_left 1
  · (intro ρ hρ; have r340 := (hρ _).trans e340; simp [go_sem, r340] <;> with_reducible rfl)
  intro a N; have sz := N.s sz; have df := N.d df; have e0 := N.o e0; have e1 := N.o e1; have e14 := N.o e14; have e339 := N.o e339; have e341 := N.new
  refine tn (d := 342) (v := ?_) sz ?_ ?_
  rotate_left 1
  · (intro ρ hρ; have r341 := (hρ _).trans e341; simp [go_sem, r341] <;> with_reducible rfl)
  intro a N; have sz := N.s sz; have df := N.d df; have e0 := N.o e0; have e1 := N.o e1; have e14 := N.o e14; have e339 := N.o e339; have e342 := N.new
  refine tn (d := 343) (v := ?_) sz ?_ ?_
  rotate_left 1
  · (intro ρ hρ; have r342 := (hρ _).trans e342; simp [go_sem, r342, c] <;> with_reducible rfl)
  intro a N; have sz := N.s sz; have df := N.d df; have e0 := N.o e0; have e1 := N.o e1; have e14 := N.o e14; have e339 := N.o e339; have e343 := N.new
  refine tn (d := 344) (v := ?_) sz ?_ ?_
  rotate_left 1
  · (intro ρ hρ; have r343 := (hρ _).trans e343; simp [go_sem, r343] <;> with_reducible rfl)
  intro a N; have sz := N.s sz; have df := N.d df; have e0 := N.o e0; have e1 := N.o e1; have e14 := N.o e14; have e339 := N.o e339; have e344 := N.new
  refine tn (d := 345) (v := ?_) sz ?_ ?_
  rotate_left 1
  · (intro ρ hρ; have r339 := (hρ _).trans e339; have r344 := (hρ _).trans e344; simp [go_sem, r339, r344] <;> with_reducible rfl)
  intro a N; have sz := N.s sz; have df := N.d df; have e0 := N.o e0; have e1 := N.o e1; have e14 := N.o e14; have e345 := N.new
  exact h _ ⟨sz, df, e0, e1⟩ e14 e345

theorem reH_post {g o g' o' : Nat} {a : Act} {w : World} {Q : Exit → Act → World → Prop} {k : Nat} (ha : FrE (.pointer (some ⟨g, o, none⟩)) (.pointer (some ⟨g', o', none⟩)) a) (e14 : a.eval (.tmp 14) = .int .i64 (k : Int)) (hk : (k : Int) + 1 ≤ 9223372036854775807)
    (h : ∀ a', FrE (.pointer (some ⟨g, o, none⟩)) (.pointer (some ⟨g', o', none⟩)) a' → a'.eval (.tmp 14) = .int .i64 ((k + 1 : Nat) : Int) → Q .normal a' w) : (rgEq 25).wp Try.prog Q a w := by
  obtain ⟨sz, df, e0, e1⟩ := ha
  have hwr : IntKind.i64.wrap ((k : Int) + 1) = ((k + 1 : Nat) : Int) := i64_nat (k + 1) (by omega)
  conv => arg 2; whnf
  refine wp_region_list ?_
  dsimp only
  refine tn (d := 346) (v := ?_) sz ?_ ?_
  rotate_left 1
  · (intro ρ hρ; have r14 := (hρ _).trans e14; simp [go_sem, r14] <;> with_reducible rfl)
  intro a N; have sz := N.s sz; have df := N.d df; have e0 := N.o e0; have e1 := N.o e1; have e14 := N.o e14; have e346 := N.new
  refine tn (d := 347) (v := ?_) sz ?_ ?_
  rotate_left 1
  · (intro ρ hρ; have rc : ∀ v, ρ (.const v) = v := fun v => hρ _; have r346 := (hρ _).trans e346; simp [go_sem, rc, r346, hwr] <;> with_reducible rfl)
  intro a N; have sz := N.s sz; have df := N.d df; have e0 := N.o e0; have e1 := N.o e1; have e14 := N.o e14; have e347 := N.new
  refine tn (d := 14) (v := ?_) sz ?_ ?_
  rotate_left 1
  · (intro ρ hρ; have r347 := (hρ _).trans e347; simp [go_sem, r347] <;> with_reducible rfl)
  intro a N; have sz := N.s sz; have df := N.d df; have e0 := N.o e0; have e1 := N.o e1; have e14 := N.new
  exact h _ ⟨sz, df, e0, e1⟩ e14

theorem reH_ret {g o g' o' : Nat} {a : Act} {w : World} {Q : Exit → Act → World → Prop} (ha : FrE (.pointer (some ⟨g, o, none⟩)) (.pointer (some ⟨g', o', none⟩)) a) (h : ∀ a', FrE (.pointer (some ⟨g, o, none⟩)) (.pointer (some ⟨g', o', none⟩)) a' → a'.eval (.tmp 4) = .bool false → Q .normal a' w) : (rgEq 28).wp Try.prog Q a w := by
  obtain ⟨sz, df, e0, e1⟩ := ha
  conv => arg 2; whnf
  refine wp_region_list ?_
  dsimp only
  refine tn (d := 4) (v := ?_) sz ?_ ?_
  rotate_left 1
  · (intro ρ hρ; have rc : ∀ v, ρ (.const v) = v := fun v => hρ _; simp [go_sem, rc] <;> with_reducible rfl)
  intro a N; have sz := N.s sz; have df := N.d df; have e0 := N.o e0; have e1 := N.o e1; have e4 := N.new
  exact h _ ⟨sz, df, e0, e1⟩ e4

theorem reH_asg {g o g' o' : Nat} {a : Act} {w : World} {Q : Exit → Act → World → Prop} {k n d1 d2 g1 o1 g2 o2 : Nat} {f0 : Int} {f1 : ByteArray} {f3 : Int} {fa : Option Addr} {fn fd : Nat} {r0 : Int} {r1 : ByteArray} {r3 : Int} {ra : Option Addr} {rn rd : Nat} (hQ : PanicOnly Q) (ha : FrE (.pointer (some ⟨g, o, none⟩)) (.pointer (some ⟨g', o', none⟩)) a) (e14 : a.eval (.tmp 14) = .int .i64 (k : Int)) (h1 : k < n) (h2 : k < n)
    (HP : Hid (∀ w', Keep (fun _ => False) w w' → w'.cell? ⟨g, o + 6, none⟩ = some (.slice (some ⟨g1, o1, none⟩) n d1) ∧ w'.cell? ⟨g', o' + 6, none⟩ = some (.slice (some ⟨g2, o2, none⟩) n d2) ∧ w'.rangeAt g1 (o1 + k * 4) [.int .i64 f0, .string f1, .slice fa fn fd, .int .i64 f3] ∧ w'.rangeAt g2 (o2 + k * 4) [.int .i64 r0, .string r1, .slice ra rn rd, .int .i64 r3]))
    (h : ∀ a' w' h1 h2, FrE (.pointer (some ⟨g, o, none⟩)) (.pointer (some ⟨g', o', none⟩)) a' → a'.eval (.tmp 14) = .int .i64 (k : Int) → a'.eval (.tmp 15) = .pointer (some ⟨h1, 0, none⟩) → a'.eval (.tmp 16) = .pointer (some ⟨h2, 0, none⟩) → w'.heap[h1]? = some (.cells #[.int .i64 f0, .string f1, .slice fa fn fd, .int .i64 f3] 65 (0, 0)) → w'.heap[h2]? = some (.cells #[.int .i64 r0, .string r1, .slice ra rn rd, .int .i64 r3] 65 (0, 0)) → Keep (fun _ => False) w w' → Q .normal a' w') : (rgEq 26).wp Try.prog Q a w := by
  obtain ⟨sz, df, e0, e1⟩ := ha
  obtain ⟨Z, HZ, hZ⟩ := zHouse
  conv => arg 2; whnf
  refine wp_region_z (fun w' => Keep (fun _ => False) w w') [] (by kernel_rfl) ?_
  have HS : Hid ((fun w' => Keep (fun _ => False) w w') w.drew) := Lib.hid ((Keep.refl (fun _ => False) w).drew)
  refine wz_take (i := 0) (d := 348) (v := ?_) rfl rfl (by rw [sz]; decide) (wanted_none rfl _) (by kernel_rfl) (by kernel_rfl) (by kernel_rfl) (fun c a w h => hQ c _ _ _ w h) (by kernel_rfl) HS.out ?_ ?_
  rotate_left 1
  · (intro w9 hS9 ρ hρ; have r0 := (hρ _).trans e0; simp [go_sem, r0] <;> with_reducible rfl)
  intro a N; have sz := N.s sz; have df := N.d df; have e0 := N.o e0; have e1 := N.o e1; have e14 := N.o e14; have e348 := N.new
  refine wz_take (i := 1) (d := 349) (v := ?_) rfl rfl (by rw [sz]; decide) (wanted_none rfl _) (by kernel_rfl) (by kernel_rfl) (by kernel_rfl) (fun c a w h => hQ c _ _ _ w h) (by kernel_rfl) HS.out ?_ ?_
  rotate_left 1
  · (intro w9 hS9 ρ hρ; have r348 := (hρ _).trans e348; simp [go_sem, r348] <;> with_reducible rfl)
  intro a N; have sz := N.s sz; have df := N.d df; have e0 := N.o e0; have e1 := N.o e1; have e14 := N.o e14; have e349 := N.new
  refine wz_take (i := 2) (d := 350) (v := ?_) rfl rfl (by rw [sz]; decide) (wanted_none rfl _) (by kernel_rfl) (by kernel_rfl) (by kernel_rfl) (fun c a w h => hQ c _ _ _ w h) (by kernel_rfl) HS.out ?_ ?_
  rotate_left 1
  · (intro w9 hS9 ρ hρ; have r349 := (hρ _).trans e349; simp [go_sem, r349] <;> with_reducible rfl)
  intro a N; have sz := N.s sz; have df := N.d df; have e0 := N.o e0; have e1 := N.o e1; have e14 := N.o e14; have e350 := N.new
  refine wz_take (i := 3) (d := 351) (v := ?_) rfl rfl (by rw [sz]; decide) (wanted_none rfl _) (by kernel_rfl) (by kernel_rfl) (by kernel_rfl) (fun c a w h => hQ c _ _ _ w h) (by kernel_rfl) HS.out ?_ ?_
  rotate_left 1
  · (intro w9 hS9 ρ hρ; have c := (HP.out _ hS9).1; have r350 := (hρ _).trans e350; simp [go_sem, r350, c] <;> with_reducible rfl)
  intro a N; have sz := N.s sz; have df := N.d df; have e0 := N.o e0; have e1 := N.o e1; have e14 := N.o e14; have e351 := N.new
  refine wz_take (i := 4) (d := 352) (v := ?_) rfl rfl (by rw [sz]; decide) (wanted_none rfl _) (by kernel_rfl) (by kernel_rfl) (by kernel_rfl) (fun c a w h => hQ c _ _ _ w h) (by kernel_rfl) HS.out ?_ ?_
  rotate_left 1
  · (intro w9 hS9 ρ hρ; have r14 := (hρ _).trans e14; simp [go_sem, r14] <;> with_reducible rfl)
  intro a N; have sz := N.s sz; have df := N.d df; have e0 := N.o e0; have e1 := N.o e1; have e14 := N.o e14; have e351 := N.o e351; have e352 := N.new
  refine wz_take (i := 5) (d := 353) (v := ?_) rfl rfl (by rw [sz]; decide) (wanted_none rfl _) (by kernel_rfl) (by kernel_rfl) (by kernel_rfl) (fun c a w h => hQ c _ _ _ w h) (by kernel_rfl) HS.out ?_ ?_
  rotate_left 1
  · (intro w9 hS9 ρ hρ; have r351 := (hρ _).trans e351; have r352 := (hρ _).trans e352; simp [go_sem, r351, r352, h1] <;> with_reducible rfl)
  intro a N; have sz := N.s sz; have df := N.d df; have e0 := N.o e0; have e1 := N.o e1; have e14 := N.o e14; have e353 := N.new
  refine wz_take (i := 6) (d := 354) (v := ?_) rfl rfl (by rw [sz]; decide) (wanted_none rfl _) (by kernel_rfl) (by kernel_rfl) (by kernel_rfl) (fun c a w h => hQ c _ _ _ w h) (by kernel_rfl) HS.out ?_ ?_
  rotate_left 1
  · (intro w9 hS9 ρ hρ; have hc := (HP.out _ hS9).2.2.1; have c0 : w9.cell? ⟨g1, o1 + k * 4, none⟩ = some (.int .i64 f0) := (by simpa using hc 0 _ rfl); have c1 : w9.cell? ⟨g1, o1 + k * 4 + 1, none⟩ = some (.string f1) := (by simpa using hc 1 _ rfl); have c2 : w9.cell? ⟨g1, o1 + k * 4 + 2, none⟩ = some (.slice fa fn fd) := (by simpa using hc 2 _ rfl); have c3 : w9.cell? ⟨g1, o1 + k * 4 + 3, none⟩ = some (.int .i64 f3) := (by simpa using hc 3 _ rfl); have r353 := (hρ _).trans e353; simp [go_sem, r353, c0, c1, c2, c3] <;> with_reducible rfl)
  intro a N; have sz := N.s sz; have df := N.d df; have e0 := N.o e0; have e1 := N.o e1; have e14 := N.o e14; have e354 := N.new
  refine wz_take (i := 7) (d := 355) (v := ?_) rfl rfl (by rw [sz]; decide) (wanted_none rfl _) (by kernel_rfl) (by kernel_rfl) (by kernel_rfl) (fun c a w h => hQ c _ _ _ w h) (by kernel_rfl) HS.out ?_ ?_
  rotate_left 1
  · (intro w9 hS9 ρ hρ; have r1 := (hρ _).trans e1; simp [go_sem, r1] <;> with_reducible rfl)
  intro a N; have sz := N.s sz; have df := N.d df; have e0 := N.o e0; have e1 := N.o e1; have e14 := N.o e14; have e354 := N.o e354; have e355 := N.new
  refine wz_take (i := 8) (d := 356) (v := ?_) rfl rfl (by rw [sz]; decide) (wanted_none rfl _) (by kernel_rfl) (by kernel_rfl) (by kernel_rfl) (fun c a w h => hQ c _ _ _ w h) (by kernel_rfl) HS.out ?_ ?_
  rotate_left 1
  · (intro w9 hS9 ρ hρ; have r355 := (hρ _).trans e355; simp [go_sem, r355] <;> with_reducible rfl)
  intro a N; have sz := N.s sz; have df := N.d df; have e0 := N.o e0; have e1 := N.o e1; have e14 := N.o e14; have e354 := N.o e354; have e356 := N.new
  refine wz_take (i := 9) (d := 357) (v := ?_) rfl rfl (by rw [sz]; decide) (wanted_none rfl _) (by kernel_rfl) (by kernel_rfl) (by kernel_rfl) (fun c a w h => hQ c _ _ _ w h) (by kernel_rfl) HS.out ?_ ?_
  rotate_left 1
  · (intro w9 hS9 ρ hρ; have r356 := (hρ _).trans e356; simp [go_sem, r356] <;> with_reducible rfl)
  intro a N; have sz := N.s sz; have df := N.d df; have e0 := N.o e0; have e1 := N.o e1; have e14 := N.o e14; have e354 := N.o e354; have e357 := N.new
  refine wz_take (i := 10) (d := 358) (v := ?_) rfl rfl (by rw [sz]; decide) (wanted_none rfl _) (by kernel_rfl) (by kernel_rfl) (by kernel_rfl) (fun c a w h => hQ c _ _ _ w h) (by kernel_rfl) HS.out ?_ ?_
  rotate_left 1
  · (intro w9 hS9 ρ hρ; have c := (HP.out _ hS9).2.1; have r357 := (hρ _).trans e357; simp [go_sem, r357, c] <;> with_reducible rfl)
  intro a N; have sz := N.s sz; have df := N.d df; have e0 := N.o e0; have e1 := N.o e1; have e14 := N.o e14; have e354 := N.o e354; have e358 := N.new
  refine wz_take (i := 11) (d := 359) (v := ?_) rfl rfl (by rw [sz]; decide) (wanted_none rfl _) (by kernel_rfl) (by kernel_rfl) (by kernel_rfl) (fun c a w h => hQ c _ _ _ w h) (by kernel_rfl) HS.out ?_ ?_
  rotate_left 1
  · (intro w9 hS9 ρ hρ; have r14 := (hρ _).trans e14; simp [go_sem, r14] <;> with_reducible rfl)
  intro a N; have sz := N.s sz; have df := N.d df; have e0 := N.o e0; have e1 := N.o e1; have e14 := N.o e14; have e354 := N.o e354; have e358 := N.o e358; have e359 := N.new
  refine wz_take (i := 12) (d := 360) (v := ?_) rfl rfl (by rw [sz]; decide) (wanted_none rfl _) (by kernel_rfl) (by kernel_rfl) (by kernel_rfl) (fun c a w h => hQ c _ _ _ w h) (by kernel_rfl) HS.out ?_ ?_
  rotate_left 1
  · (intro w9 hS9 ρ hρ; have r358 := (hρ _).trans e358; have r359 := (hρ _).trans e359; simp [go_sem, r358, r359, h2] <;> with_reducible rfl)
  intro a N; have sz := N.s sz; have df := N.d df; have e0 := N.o e0; have e1 := N.o e1; have e14 := N.o e14; have e354 := N.o e354; have e360 := N.new
  refine wz_take (i := 13) (d := 361) (v := ?_) rfl rfl (by rw [sz]; decide) (wanted_none rfl _) (by kernel_rfl) (by kernel_rfl) (by kernel_rfl) (fun c a w h => hQ c _ _ _ w h) (by kernel_rfl) HS.out ?_ ?_
  rotate_left 1
  · (intro w9 hS9 ρ hρ; have hc := (HP.out _ hS9).2.2.2; have c0 : w9.cell? ⟨g2, o2 + k * 4, none⟩ = some (.int .i64 r0) := (by simpa using hc 0 _ rfl); have c1 : w9.cell? ⟨g2, o2 + k * 4 + 1, none⟩ = some (.string r1) := (by simpa using hc 1 _ rfl); have c2 : w9.cell? ⟨g2, o2 + k * 4 + 2, none⟩ = some (.slice ra rn rd) := (by simpa using hc 2 _ rfl); have c3 : w9.cell? ⟨g2, o2 + k * 4 + 3, none⟩ = some (.int .i64 r3) := (by simpa using hc 3 _ rfl); have r360 := (hρ _).trans e360; simp [go_sem, r360, c0, c1, c2, c3] <;> with_reducible rfl)
  intro a N; have sz := N.s sz; have df := N.d df; have e0 := N.o e0; have e1 := N.o e1; have e14 := N.o e14; have e354 := N.o e354; have e361 := N.new
  refine wpAnyZ_vars (i := 14) (j := 15) (m := 16) (n := 17) (d1 := 15) (d2 := 16) (t := 65) (Z := Z) (C1 := #[.int .i64 f0, .string f1, .slice fa fn fd, .int .i64 f3]) (C2 := #[.int .i64 r0, .string r1, .slice ra rn rd, .int .i64 r3]) (x1 := .tmp 354) (x2 := .tmp 361) rfl rfl rfl rfl rfl rfl rfl rfl rfl rfl rfl rfl rfl rfl rfl rfl (by decide) (by kernel_rfl) (by kernel_rfl) (by kernel_rfl) (by kernel_rfl) (by kernel_rfl) (by kernel_rfl) (by decide) HZ.out (by rw [hZ]; kernel_rfl) hZ hZ (by simp [Value.oneCell']) (by simp [Value.oneCell']) (by rw [sz]; decide) (by rw [sz]; decide)
    (fun p q => by rw [eval_put_ne (by decide), eval_put_ne (by decide)]; exact e354) (fun p q => by rw [eval_put_ne (by decide), eval_put_ne (by decide)]; exact e361) (fun w' kk => HS.out.trans kk (fun _ h => h.elim)) ?_
  intro h1 h2 w9 t1 t2 kk
  have N1 := Nxt.put (a := a) (v := .pointer (some ⟨h1, 0, none⟩)) (show 15 < a.tmps.size by rw [sz]; decide)
  have N2 := Nxt.put (a := a.put (some 15) (.pointer (some ⟨h1, 0, none⟩))) (v := .pointer (some ⟨h2, 0, none⟩)) (show 16 < (a.put (some 15) _).tmps.size by rw [size_put, sz]; decide)
  exact h _ w9 h1 h2 ⟨N2.size.trans (N1.size.trans sz), N2.defers.trans (N1.defers.trans df), (N2.old 0 (by decide)).trans ((N1.old 0 (by decide)).trans e0), (N2.old 1 (by decide)).trans ((N1.old 1 (by decide)).trans e1)⟩
    ((N2.old 14 (by decide)).trans ((N1.old 14 (by decide)).trans e14)) ((N2.old 15 (by decide)).trans N1.new) N2.new t1 t2 (HS.out.trans kk (fun _ h => h.elim))

set_option maxHeartbeats 4000000 in
theorem reH_cmp {g o g' o' : Nat} {a : Act} {w : World} {Q : Exit → Act → World → Prop} {k h1 h2 : Nat} {f0 : Int} {f1 : ByteArray} {f3 : Int} {fa : Option Addr} {fn fd : Nat} {r0 : Int} {r1 : ByteArray} {r3 : Int} {ra : Option Addr} {rn rd : Nat} {fl rl : List ByteArray} {Pb Qb : Nat → Prop} (hfl : LAt eS Pb w (.slice fa fn fd) fl) (hrl : LAt eS Qb w (.slice ra rn rd) rl) (ha : FrE (.pointer (some ⟨g, o, none⟩)) (.pointer (some ⟨g', o', none⟩)) a) (e14 : a.eval (.tmp 14) = .int .i64 (k : Int)) (e15 : a.eval (.tmp 15) = .pointer (some ⟨h1, 0, none⟩)) (e16 : a.eval (.tmp 16) = .pointer (some ⟨h2, 0, none⟩)) (t1 : w.heap[h1]? = some (.cells #[.int .i64 f0, .string f1, .slice fa fn fd, .int .i64 f3] 65 (0, 0))) (t2 : w.heap[h2]? = some (.cells #[.int .i64 r0, .string r1, .slice ra rn rd, .int .i64 r3] 65 (0, 0)))
    (h : ∀ a' w' b, FrE (.pointer (some ⟨g, o, none⟩)) (.pointer (some ⟨g', o', none⟩)) a' → a'.eval (.tmp 14) = .int .i64 (k : Int) → a'.eval (.tmp 388) = .bool b → (b = false ↔ (((f0, f1, fl, f3) : Int × ByteArray × List ByteArray × Int) = (r0, r1, rl, r3))) → Keep (fun _ => False) w w' → Q .normal a' w') : (rgEq 27).wp Try.prog Q a w := by
  obtain ⟨sz, df, e0, e1⟩ := ha
  have c0 : _ = some (Value.int .i64 f0) := (cell_of_row _ _ 0 _ _ _ t1).trans rfl
  have d0 : _ = some (Value.int .i64 r0) := (cell_of_row _ _ 0 _ _ _ t2).trans rfl
  have c1 : _ = some (Value.string f1) := (cell_of_row _ _ 1 _ _ _ t1).trans rfl
  have d1 : _ = some (Value.string r1) := (cell_of_row _ _ 1 _ _ _ t2).trans rfl
  have c2 : _ = some (Value.slice fa fn fd) := (cell_of_row _ _ 2 _ _ _ t1).trans rfl
  have d2 : _ = some (Value.slice ra rn rd) := (cell_of_row _ _ 2 _ _ _ t2).trans rfl
  have c3 : _ = some (Value.int .i64 f3) := (cell_of_row _ _ 3 _ _ _ t1).trans rfl
  have d3 : _ = some (Value.int .i64 r3) := (cell_of_row _ _ 3 _ _ _ t2).trans rfl
  clear t1 t2
  conv => arg 2; whnf
  refine wp_region_list ?_
  dsimp only
  refine tn (d := 362) (v := ?_) sz ?_ ?_
  rotate_left 1
  · (intro ρ hρ; have r15 := (hρ _).trans e15; simp [go_sem, r15] <;> with_reducible rfl)
  intro a N; have sz := N.s sz; have df := N.d df; have e0 := N.o e0; have e1 := N.o e1; have e14 := N.o e14; have e15 := N.o e15; have e16 := N.o e16; have e362 := N.new
  refine tn (d := 363) (v := ?_) sz ?_ ?_
  rotate_left 1
  · (intro ρ hρ; have r362 := (hρ _).trans e362; simp [go_sem, r362, c0] <;> with_reducible rfl)
  intro a N; have sz := N.s sz; have df := N.d df; have e0 := N.o e0; have e1 := N.o e1; have e14 := N.o e14; have e15 := N.o e15; have e16 := N.o e16; have e363 := N.new
  refine tn (d := 364) (v := ?_) sz ?_ ?_
  rotate_left 1
  · (intro ρ hρ; have r16 := (hρ _).trans e16; simp [go_sem, r16] <;> with_reducible rfl)
  intro a N; have sz := N.s sz; have df := N.d df; have e0 := N.o e0; have e1 := N.o e1; have e14 := N.o e14; have e15 := N.o e15; have e16 := N.o e16; have e363 := N.o e363; have e364 := N.new
  refine tn (d := 365) (v := ?_) sz ?_ ?_
  rotate_left 1
  · (intro ρ hρ; have r364 := (hρ _).trans e364; simp [go_sem, r364, d0] <;> with_reducible rfl)
  intro a N; have sz := N.s sz; have df := N.d df; have e0 := N.o e0; have e1 := N.o e1; have e14 := N.o e14; have e15 := N.o e15; have e16 := N.o e16; have e363 := N.o e363; have e365 := N.new
  by_cases hf0 : f0 = r0
  rotate_left 1
  · have hq : (f0 != r0) = true := by simpa using hf0
    refine tn (d := 366) (v := ?_) sz ?_ ?_
    rotate_left 1
    · (intro ρ hρ; have r363 := (hρ _).trans e363; have r365 := (hρ _).trans e365; simp [go_sem, r363, r365, hq] <;> with_reducible rfl)
    intro a N; have sz := N.s sz; have df := N.d df; have e0 := N.o e0; have e1 := N.o e1; have e14 := N.o e14; have e15 := N.o e15; have e16 := N.o e16; have e366 := N.new
    refine tn (d := 367) (v := ?_) sz ?_ ?_
    rotate_left 1
    · (intro ρ hρ; have r366 := (hρ _).trans e366; simp [go_sem, r366] <;> with_reducible rfl)
    intro a N; have sz := N.s sz; have df := N.d df; have e0 := N.o e0; have e1 := N.o e1; have e14 := N.o e14; have e15 := N.o e15; have e16 := N.o e16; have e367 := N.new
    refine sk (d := 368) sz (wanted_is rfl rfl e367 rfl) ?_
    intro a N; have sz := N.s sz; have df := N.d df; have e0 := N.o e0; have e1 := N.o e1; have e14 := N.o e14; have e15 := N.o e15; have e16 := N.o e16; have e367 := N.o e367; have e368 := N.new
    refine sk (d := 369) sz (wanted_is rfl rfl e367 rfl) ?_
    intro a N; have sz := N.s sz; have df := N.d df; have e0 := N.o e0; have e1 := N.o e1; have e14 := N.o e14; have e15 := N.o e15; have e16 := N.o e16; have e367 := N.o e367; have e369 := N.new
    refine sk (d := 370) sz (wanted_is rfl rfl e367 rfl) ?_
    intro a N; have sz := N.s sz; have df := N.d df; have e0 := N.o e0; have e1 := N.o e1; have e14 := N.o e14; have e15 := N.o e15; have e16 := N.o e16; have e367 := N.o e367; have e369 := N.o e369; have e370 := N.new
    refine sk (d := 371) sz (wanted_is rfl rfl e367 rfl) ?_
    intro a N; have sz := N.s sz; have df := N.d df; have e0 := N.o e0; have e1 := N.o e1; have e14 := N.o e14; have e15 := N.o e15; have e16 := N.o e16; have e367 := N.o e367; have e369 := N.o e369; have e371 := N.new
    refine sk (d := 372) sz (wanted_is rfl rfl e367 rfl) ?_
    intro a N; have sz := N.s sz; have df := N.d df; have e0 := N.o e0; have e1 := N.o e1; have e14 := N.o e14; have e15 := N.o e15; have e16 := N.o e16; have e367 := N.o e367; have e372 := N.new
    refine tn (d := 373) (v := ?_) sz ?_ ?_
    rotate_left 1
    · (intro ρ hρ; have rc : ∀ v, ρ (.const v) = v := fun v => hρ _; have r367 := (hρ _).trans e367; have r372 := (hρ _).trans e372; simp [go_sem, rc, r367, r372] <;> with_reducible rfl)
    intro a N; have sz := N.s sz; have df := N.d df; have e0 := N.o e0; have e1 := N.o e1; have e14 := N.o e14; have e15 := N.o e15; have e16 := N.o e16; have e373 := N.new
    refine tn (d := 374) (v := ?_) sz ?_ ?_
    rotate_left 1
    · (intro ρ hρ; have r373 := (hρ _).trans e373; simp [go_sem, r373] <;> with_reducible rfl)
    intro a N; have sz := N.s sz; have df := N.d df; have e0 := N.o e0; have e1 := N.o e1; have e14 := N.o e14; have e15 := N.o e15; have e16 := N.o e16; have e374 := N.new
    refine sk (d := 375) sz (wanted_is rfl rfl e374 rfl) ?_
    intro a N; have sz := N.s sz; have df := N.d df; have e0 := N.o e0; have e1 := N.o e1; have e14 := N.o e14; have e15 := N.o e15; have e16 := N.o e16; have e374 := N.o e374; have e375 := N.new
    refine sk (d := 376) sz (wanted_is rfl rfl e374 rfl) ?_
    intro a N; have sz := N.s sz; have df := N.d df; have e0 := N.o e0; have e1 := N.o e1; have e14 := N.o e14; have e15 := N.o e15; have e16 := N.o e16; have e374 := N.o e374; have e376 := N.new
    refine sk (d := 377) sz (wanted_is rfl rfl e374 rfl) ?_
    intro a N; have sz := N.s sz; have df := N.d df; have e0 := N.o e0; have e1 := N.o e1; have e14 := N.o e14; have e15 := N.o e15; have e16 := N.o e16; have e374 := N.o e374; have e376 := N.o e376; have e377 := N.new
    refine sk (d := 378) sz (wanted_is rfl rfl e374 rfl) ?_
    intro a N; have sz := N.s sz; have df := N.d df; have e0 := N.o e0; have e1 := N.o e1; have e14 := N.o e14; have e15 := N.o e15; have e16 := N.o e16; have e374 := N.o e374; have e376 := N.o e376; have e378 := N.new
    refine sk (d := 379) sz (wanted_is rfl rfl e374 rfl) ?_
    intro a N; have sz := N.s sz; have df := N.d df; have e0 := N.o e0; have e1 := N.o e1; have e14 := N.o e14; have e15 := N.o e15; have e16 := N.o e16; have e374 := N.o e374; have e379 := N.new
    refine tn (d := 380) (v := ?_) sz ?_ ?_
    rotate_left 1
    · (intro ρ hρ; have rc : ∀ v, ρ (.const v) = v := fun v => hρ _; have r374 := (hρ _).trans e374; have r379 := (hρ _).trans e379; simp [go_sem, rc, r374, r379] <;> with_reducible rfl)
    intro a N; have sz := N.s sz; have df := N.d df; have e0 := N.o e0; have e1 := N.o e1; have e14 := N.o e14; have e15 := N.o e15; have e16 := N.o e16; have e380 := N.new
    refine tn (d := 381) (v := ?_) sz ?_ ?_
    rotate_left 1
    · (intro ρ hρ; have r380 := (hρ _).trans e380; simp [go_sem, r380] <;> with_reducible rfl)
    intro a N; have sz := N.s sz; have df := N.d df; have e0 := N.o e0; have e1 := N.o e1; have e14 := N.o e14; have e15 := N.o e15; have e16 := N.o e16; have e381 := N.new
    refine sk (d := 382) sz (wanted_is rfl rfl e381 rfl) ?_
    intro a N; have sz := N.s sz; have df := N.d df; have e0 := N.o e0; have e1 := N.o e1; have e14 := N.o e14; have e16 := N.o e16; have e381 := N.o e381; have e382 := N.new
    refine sk (d := 383) sz (wanted_is rfl rfl e381 rfl) ?_
    intro a N; have sz := N.s sz; have df := N.d df; have e0 := N.o e0; have e1 := N.o e1; have e14 := N.o e14; have e16 := N.o e16; have e381 := N.o e381; have e383 := N.new
    refine sk (d := 384) sz (wanted_is rfl rfl e381 rfl) ?_
    intro a N; have sz := N.s sz; have df := N.d df; have e0 := N.o e0; have e1 := N.o e1; have e14 := N.o e14; have e381 := N.o e381; have e383 := N.o e383; have e384 := N.new
    refine sk (d := 385) sz (wanted_is rfl rfl e381 rfl) ?_
    intro a N; have sz := N.s sz; have df := N.d df; have e0 := N.o e0; have e1 := N.o e1; have e14 := N.o e14; have e381 := N.o e381; have e383 := N.o e383; have e385 := N.new
    refine sk (d := 386) sz (wanted_is rfl rfl e381 rfl) ?_
    intro a N; have sz := N.s sz; have df := N.d df; have e0 := N.o e0; have e1 := N.o e1; have e14 := N.o e14; have e381 := N.o e381; have e386 := N.new
    refine sk (d := 387) sz (wanted_is rfl rfl e381 rfl) ?_
    intro a N; have sz := N.s sz; have df := N.d df; have e0 := N.o e0; have e1 := N.o e1; have e14 := N.o e14; have e381 := N.o e381; have e387 := N.new
    refine tn (d := 388) (v := ?_) sz ?_ ?_
    rotate_left 1
    · (intro ρ hρ; have rc : ∀ v, ρ (.const v) = v := fun v => hρ _; have r381 := (hρ _).trans e381; have r387 := (hρ _).trans e387; simp [go_sem, rc, r381, r387] <;> with_reducible rfl)
    intro a N; have sz := N.s sz; have df := N.d df; have e0 := N.o e0; have e1 := N.o e1; have e14 := N.o e14; have e388 := N.new
    exact h _ w true ⟨sz, df, e0, e1⟩ e14 e388 ⟨fun h => (by cases h), fun h => absurd (congrArg (fun z => z.1) h) hf0⟩ (Keep.refl _ w)
  subst hf0
  refine tn (d := 366) (v := ?_) sz ?_ ?_
  rotate_left 1
  · (intro ρ hρ; have r363 := (hρ _).trans e363; have r365 := (hρ _).trans e365; simp [go_sem, r363, r365] <;> with_reducible rfl)
  intro a N; have sz := N.s sz; have df := N.d df; have e0 := N.o e0; have e1 := N.o e1; have e14 := N.o e14; have e15 := N.o e15; have e16 := N.o e16; have e366 := N.new
  refine tn (d := 367) (v := ?_) sz ?_ ?_
  rotate_left 1
  · (intro ρ hρ; have r366 := (hρ _).trans e366; simp [go_sem, r366] <;> with_reducible rfl)
  intro a N; have sz := N.s sz; have df := N.d df; have e0 := N.o e0; have e1 := N.o e1; have e14 := N.o e14; have e15 := N.o e15; have e16 := N.o e16; have e367 := N.new
  refine tk (d := 368) (v := ?_) sz (wanted_is rfl rfl e367 rfl) ?_ ?_
  rotate_left 1
  · (intro ρ hρ; have r15 := (hρ _).trans e15; simp [go_sem, r15] <;> with_reducible rfl)
  intro a N; have sz := N.s sz; have df := N.d df; have e0 := N.o e0; have e1 := N.o e1; have e14 := N.o e14; have e15 := N.o e15; have e16 := N.o e16; have e367 := N.o e367; have e368 := N.new
  refine tk (d := 369) (v := ?_) sz (wanted_is rfl rfl e367 rfl) ?_ ?_
  rotate_left 1
  · (intro ρ hρ; have r368 := (hρ _).trans e368; simp [go_sem, r368, c1] <;> with_reducible rfl)
  intro a N; have sz := N.s sz; have df := N.d df; have e0 := N.o e0; have e1 := N.o e1; have e14 := N.o e14; have e15 := N.o e15; have e16 := N.o e16; have e367 := N.o e367; have e369 := N.new
  refine tk (d := 370) (v := ?_) sz (wanted_is rfl rfl e367 rfl) ?_ ?_
  rotate_left 1
  · (intro ρ hρ; have r16 := (hρ _).trans e16; simp [go_sem, r16] <;> with_reducible rfl)
  intro a N; have sz := N.s sz; have df := N.d df; have e0 := N.o e0; have e1 := N.o e1; have e14 := N.o e14; have e15 := N.o e15; have e16 := N.o e16; have e367 := N.o e367; have e369 := N.o e369; have e370 := N.new
  refine tk (d := 371) (v := ?_) sz (wanted_is rfl rfl e367 rfl) ?_ ?_
  rotate_left 1
  · (intro ρ hρ; have r370 := (hρ _).trans e370; simp [go_sem, r370, d1] <;> with_reducible rfl)
  intro a N; have sz := N.s sz; have df := N.d df; have e0 := N.o e0; have e1 := N.o e1; have e14 := N.o e14; have e15 := N.o e15; have e16 := N.o e16; have e367 := N.o e367; have e369 := N.o e369; have e371 := N.new
  by_cases hf1 : f1 = r1
  rotate_left 1
  · have hq : (f1.toList == r1.toList) = false := str_ne hf1
    refine tk (d := 372) (v := ?_) sz (wanted_is rfl rfl e367 rfl) ?_ ?_
    rotate_left 1
    · (intro ρ hρ; have r369 := (hρ _).trans e369; have r371 := (hρ _).trans e371; simp [go_sem, r369, r371, hq] <;> with_reducible rfl)
    intro a N; have sz := N.s sz; have df := N.d df; have e0 := N.o e0; have e1 := N.o e1; have e14 := N.o e14; have e15 := N.o e15; have e16 := N.o e16; have e367 := N.o e367; have e372 := N.new
    refine tn (d := 373) (v := ?_) sz ?_ ?_
    rotate_left 1
    · (intro ρ hρ; have rc : ∀ v, ρ (.const v) = v := fun v => hρ _; have r367 := (hρ _).trans e367; have r372 := (hρ _).trans e372; simp [go_sem, rc, r367, r372] <;> with_reducible rfl)
    intro a N; have sz := N.s sz; have df := N.d df; have e0 := N.o e0; have e1 := N.o e1; have e14 := N.o e14; have e15 := N.o e15; have e16 := N.o e16; have e373 := N.new
    refine tn (d := 374) (v := ?_) sz ?_ ?_
    rotate_left 1
    · (intro ρ hρ; have r373 := (hρ _).trans e373; simp [go_sem, r373] <;> with_reducible rfl)
    intro a N; have sz := N.s sz; have df := N.d df; have e0 := N.o e0; have e1 := N.o e1; have e14 := N.o e14; have e15 := N.o e15; have e16 := N.o e16; have e374 := N.new
    refine sk (d := 375) sz (wanted_is rfl rfl e374 rfl) ?_
    intro a N; have sz := N.s sz; have df := N.d df; have e0 := N.o e0; have e1 := N.o e1; have e14 := N.o e14; have e15 := N.o e15; have e16 := N.o e16; have e374 := N.o e374; have e375 := N.new
    refine sk (d := 376) sz (wanted_is rfl rfl e374 rfl) ?_
    intro a N; have sz := N.s sz; have df := N.d df; have e0 := N.o e0; have e1 := N.o e1; have e14 := N.o e14; have e15 := N.o e15; have e16 := N.o e16; have e374 := N.o e374; have e376 := N.new
    refine sk (d := 377) sz (wanted_is rfl rfl e374 rfl) ?_
    intro a N; have sz := N.s sz; have df := N.d df; have e0 := N.o e0; have e1 := N.o e1; have e14 := N.o e14; have e15 := N.o e15; have e16 := N.o e16; have e374 := N.o e374; have e376 := N.o e376; have e377 := N.new
    refine sk (d := 378) sz (wanted_is rfl rfl e374 rfl) ?_
    intro a N; have sz := N.s sz; have df := N.d df; have e0 := N.o e0; have e1 := N.o e1; have e14 := N.o e14; have e15 := N.o e15; have e16 := N.o e16; have e374 := N.o e374; have e376 := N.o e376; have e378 := N.new
    refine sk (d := 379) sz (wanted_is rfl rfl e374 rfl) ?_
    intro a N; have sz := N.s sz; have df := N.d df; have e0 := N.o e0; have e1 := N.o e1; have e14 := N.o e14; have e15 := N.o e15; have e16 := N.o e16; have e374 := N.o e374; have e379 := N.new
    refine tn (d := 380) (v := ?_) sz ?_ ?_
    rotate_left 1
    · (intro ρ hρ; have rc : ∀ v, ρ (.const v) = v := fun v => hρ _; have r374 := (hρ _).trans e374; have r379 := (hρ _).trans e379; simp [go_sem, rc, r374, r379] <;> with_reducible rfl)
    intro a N; have sz := N.s sz; have df := N.d df; have e0 := N.o e0; have e1 := N.o e1; have e14 := N.o e14; have e15 := N.o e15; have e16 := N.o e16; have e380 := N.new
    refine tn (d := 381) (v := ?_) sz ?_ ?_
    rotate_left 1
    · (intro ρ hρ; have r380 := (hρ _).trans e380; simp [go_sem, r380] <;> with_reducible rfl)
    intro a N; have sz := N.s sz; have df := N.d df; have e0 := N.o e0; have e1 := N.o e1; have e14 := N.o e14; have e15 := N.o e15; have e16 := N.o e16; have e381 := N.new
    refine sk (d := 382) sz (wanted_is rfl rfl e381 rfl) ?_
    intro a N; have sz := N.s sz; have df := N.d df; have e0 := N.o e0; have e1 := N.o e1; have e14 := N.o e14; have e16 := N.o e16; have e381 := N.o e381; have e382 := N.new
    refine sk (d := 383) sz (wanted_is rfl rfl e381 rfl) ?_
    intro a N; have sz := N.s sz; have df := N.d df; have e0 := N.o e0; have e1 := N.o e1; have e14 := N.o e14; have e16 := N.o e16; have e381 := N.o e381; have e383 := N.new
    refine sk (d := 384) sz (wanted_is rfl rfl e381 rfl) ?_
    intro a N; have sz := N.s sz; have df := N.d df; have e0 := N.o e0; have e1 := N.o e1; have e14 := N.o e14; have e381 := N.o e381; have e383 := N.o e383; have e384 := N.new
    refine sk (d := 385) sz (wanted_is rfl rfl e381 rfl) ?_
    intro a N; have sz := N.s sz; have df := N.d df; have e0 := N.o e0; have e1 := N.o e1; have e14 := N.o e14; have e381 := N.o e381; have e383 := N.o e383; have e385 := N.new
    refine sk (d := 386) sz (wanted_is rfl rfl e381 rfl) ?_
    intro a N; have sz := N.s sz; have df := N.d df; have e0 := N.o e0; have e1 := N.o e1; have e14 := N.o e14; have e381 := N.o e381; have e386 := N.new
    refine sk (d := 387) sz (wanted_is rfl rfl e381 rfl) ?_
    intro a N; have sz := N.s sz; have df := N.d df; have e0 := N.o e0; have e1 := N.o e1; have e14 := N.o e14; have e381 := N.o e381; have e387 := N.new
    refine tn (d := 388) (v := ?_) sz ?_ ?_
    rotate_left 1
    · (intro ρ hρ; have rc : ∀ v, ρ (.const v) = v := fun v => hρ _; have r381 := (hρ _).trans e381; have r387 := (hρ _).trans e387; simp [go_sem, rc, r381, r387] <;> with_reducible rfl)
    intro a N; have sz := N.s sz; have df := N.d df; have e0 := N.o e0; have e1 := N.o e1; have e14 := N.o e14; have e388 := N.new
    exact h _ w true ⟨sz, df, e0, e1⟩ e14 e388 ⟨fun h => (by cases h), fun h => absurd (congrArg (fun z => z.2.1) h) hf1⟩ (Keep.refl _ w)
  subst hf1
  refine tk (d := 372) (v := ?_) sz (wanted_is rfl rfl e367 rfl) ?_ ?_
  rotate_left 1
  · (intro ρ hρ; have r369 := (hρ _).trans e369; have r371 := (hρ _).trans e371; simp [go_sem, r369, r371] <;> with_reducible rfl)
  intro a N; have sz := N.s sz; have df := N.d df; have e0 := N.o e0; have e1 := N.o e1; have e14 := N.o e14; have e15 := N.o e15; have e16 := N.o e16; have e367 := N.o e367; have e372 := N.new
  refine tn (d := 373) (v := ?_) sz ?_ ?_
  rotate_left 1
  · (intro ρ hρ; have rc : ∀ v, ρ (.const v) = v := fun v => hρ _; have r367 := (hρ _).trans e367; have r372 := (hρ _).trans e372; simp [go_sem, rc, r367, r372] <;> with_reducible rfl)
  intro a N; have sz := N.s sz; have df := N.d df; have e0 := N.o e0; have e1 := N.o e1; have e14 := N.o e14; have e15 := N.o e15; have e16 := N.o e16; have e373 := N.new
  refine tn (d := 374) (v := ?_) sz ?_ ?_
  rotate_left 1
  · (intro ρ hρ; have r373 := (hρ _).trans e373; simp [go_sem, r373] <;> with_reducible rfl)
  intro a N; have sz := N.s sz; have df := N.d df; have e0 := N.o e0; have e1 := N.o e1; have e14 := N.o e14; have e15 := N.o e15; have e16 := N.o e16; have e374 := N.new
  refine tk (d := 375) (v := ?_) sz (wanted_is rfl rfl e374 rfl) ?_ ?_
  rotate_left 1
  · (intro ρ hρ; have r15 := (hρ _).trans e15; simp [go_sem, r15] <;> with_reducible rfl)
  intro a N; have sz := N.s sz; have df := N.d df; have e0 := N.o e0; have e1 := N.o e1; have e14 := N.o e14; have e15 := N.o e15; have e16 := N.o e16; have e374 := N.o e374; have e375 := N.new
  refine tk (d := 376) (v := ?_) sz (wanted_is rfl rfl e374 rfl) ?_ ?_
  rotate_left 1
  · (intro ρ hρ; have r375 := (hρ _).trans e375; simp [go_sem, r375, c3] <;> with_reducible rfl)
  intro a N; have sz := N.s sz; have df := N.d df; have e0 := N.o e0; have e1 := N.o e1; have e14 := N.o e14; have e15 := N.o e15; have e16 := N.o e16; have e374 := N.o e374; have e376 := N.new
  refine tk (d := 377) (v := ?_) sz (wanted_is rfl rfl e374 rfl) ?_ ?_
  rotate_left 1
  · (intro ρ hρ; have r16 := (hρ _).trans e16; simp [go_sem, r16] <;> with_reducible rfl)
  intro a N; have sz := N.s sz; have df := N.d df; have e0 := N.o e0; have e1 := N.o e1; have e14 := N.o e14; have e15 := N.o e15; have e16 := N.o e16; have e374 := N.o e374; have e376 := N.o e376; have e377 := N.new
  refine tk (d := 378) (v := ?_) sz (wanted_is rfl rfl e374 rfl) ?_ ?_
  rotate_left 1
  · (intro ρ hρ; have r377 := (hρ _).trans e377; simp [go_sem, r377, d3] <;> with_reducible rfl)
  intro a N; have sz := N.s sz; have df := N.d df; have e0 := N.o e0; have e1 := N.o e1; have e14 := N.o e14; have e15 := N.o e15; have e16 := N.o e16; have e374 := N.o e374; have e376 := N.o e376; have e378 := N.new
  by_cases hf3 : f3 = r3
  rotate_left 1
  · have hq : (f3 != r3) = true := by simpa using hf3
    refine tk (d := 379) (v := ?_) sz (wanted_is rfl rfl e374 rfl) ?_ ?_
    rotate_left 1
    · (intro ρ hρ; have r376 := (hρ _).trans e376; have r378 := (hρ _).trans e378; simp [go_sem, r376, r378, hq] <;> with_reducible rfl)
    intro a N; have sz := N.s sz; have df := N.d df; have e0 := N.o e0; have e1 := N.o e1; have e14 := N.o e14; have e15 := N.o e15; have e16 := N.o e16; have e374 := N.o e374; have e379 := N.new
    refine tn (d := 380) (v := ?_) sz ?_ ?_
    rotate_left 1
    · (intro ρ hρ; have rc : ∀ v, ρ (.const v) = v := fun v => hρ _; have r374 := (hρ _).trans e374; have r379 := (hρ _).trans e379; simp [go_sem, rc, r374, r379] <;> with_reducible rfl)
    intro a N; have sz := N.s sz; have df := N.d df; have e0 := N.o e0; have e1 := N.o e1; have e14 := N.o e14; have e15 := N.o e15; have e16 := N.o e16; have e380 := N.new
    refine tn (d := 381) (v := ?_) sz ?_ ?_
    rotate_left 1
    · (intro ρ hρ; have r380 := (hρ _).trans e380; simp [go_sem, r380] <;> with_reducible rfl)
    intro a N; have sz := N.s sz; have df := N.d df; have e0 := N.o e0; have e1 := N.o e1; have e14 := N.o e14; have e15 := N.o e15; have e16 := N.o e16; have e381 := N.new
    refine sk (d := 382) sz (wanted_is rfl rfl e381 rfl) ?_
    intro a N; have sz := N.s sz; have df := N.d df; have e0 := N.o e0; have e1 := N.o e1; have e14 := N.o e14; have e16 := N.o e16; have e381 := N.o e381; have e382 := N.new
    refine sk (d := 383) sz (wanted_is rfl rfl e381 rfl) ?_
    intro a N; have sz := N.s sz; have df := N.d df; have e0 := N.o e0; have e1 := N.o e1; have e14 := N.o e14; have e16 := N.o e16; have e381 := N.o e381; have e383 := N.new
    refine sk (d := 384) sz (wanted_is rfl rfl e381 rfl) ?_
    intro a N; have sz := N.s sz; have df := N.d df; have e0 := N.o e0; have e1 := N.o e1; have e14 := N.o e14; have e381 := N.o e381; have e383 := N.o e383; have e384 := N.new
    refine sk (d := 385) sz (wanted_is rfl rfl e381 rfl) ?_
    intro a N; have sz := N.s sz; have df := N.d df; have e0 := N.o e0; have e1 := N.o e1; have e14 := N.o e14; have e381 := N.o e381; have e383 := N.o e383; have e385 := N.new
    refine sk (d := 386) sz (wanted_is rfl rfl e381 rfl) ?_
    intro a N; have sz := N.s sz; have df := N.d df; have e0 := N.o e0; have e1 := N.o e1; have e14 := N.o e14; have e381 := N.o e381; have e386 := N.new
    refine sk (d := 387) sz (wanted_is rfl rfl e381 rfl) ?_
    intro a N; have sz := N.s sz; have df := N.d df; have e0 := N.o e0; have e1 := N.o e1; have e14 := N.o e14; have e381 := N.o e381; have e387 := N.new
    refine tn (d := 388) (v := ?_) sz ?_ ?_
    rotate_left 1
    · (intro ρ hρ; have rc : ∀ v, ρ (.const v) = v := fun v => hρ _; have r381 := (hρ _).trans e381; have r387 := (hρ _).trans e387; simp [go_sem, rc, r381, r387] <;> with_reducible rfl)
    intro a N; have sz := N.s sz; have df := N.d df; have e0 := N.o e0; have e1 := N.o e1; have e14 := N.o e14; have e388 := N.new
    exact h _ w true ⟨sz, df, e0, e1⟩ e14 e388 ⟨fun h => (by cases h), fun h => absurd (congrArg (fun z => z.2.2.2) h) hf3⟩ (Keep.refl _ w)
  subst hf3
  refine tk (d := 379) (v := ?_) sz (wanted_is rfl rfl e374 rfl) ?_ ?_
  rotate_left 1
  · (intro ρ hρ; have r376 := (hρ _).trans e376; have r378 := (hρ _).trans e378; simp [go_sem, r376, r378] <;> with_reducible rfl)
  intro a N; have sz := N.s sz; have df := N.d df; have e0 := N.o e0; have e1 := N.o e1; have e14 := N.o e14; have e15 := N.o e15; have e16 := N.o e16; have e374 := N.o e374; have e379 := N.new
  refine tn (d := 380) (v := ?_) sz ?_ ?_
  rotate_left 1
  · (intro ρ hρ; have rc : ∀ v, ρ (.const v) = v := fun v => hρ _; have r374 := (hρ _).trans e374; have r379 := (hρ _).trans e379; simp [go_sem, rc, r374, r379] <;> with_reducible rfl)
  intro a N; have sz := N.s sz; have df := N.d df; have e0 := N.o e0; have e1 := N.o e1; have e14 := N.o e14; have e15 := N.o e15; have e16 := N.o e16; have e380 := N.new
  refine tn (d := 381) (v := ?_) sz ?_ ?_
  rotate_left 1
  · (intro ρ hρ; have r380 := (hρ _).trans e380; simp [go_sem, r380] <;> with_reducible rfl)
  intro a N; have sz := N.s sz; have df := N.d df; have e0 := N.o e0; have e1 := N.o e1; have e14 := N.o e14; have e15 := N.o e15; have e16 := N.o e16; have e381 := N.new
  refine tk (d := 382) (v := ?_) sz (wanted_is rfl rfl e381 rfl) ?_ ?_
  rotate_left 1
  · (intro ρ hρ; have r15 := (hρ _).trans e15; simp [go_sem, r15] <;> with_reducible rfl)
  intro a N; have sz := N.s sz; have df := N.d df; have e0 := N.o e0; have e1 := N.o e1; have e14 := N.o e14; have e16 := N.o e16; have e381 := N.o e381; have e382 := N.new
  refine tk (d := 383) (v := ?_) sz (wanted_is rfl rfl e381 rfl) ?_ ?_
  rotate_left 1
  · (intro ρ hρ; have r382 := (hρ _).trans e382; simp [go_sem, r382, c2] <;> with_reducible rfl)
  intro a N; have sz := N.s sz; have df := N.d df; have e0 := N.o e0; have e1 := N.o e1; have e14 := N.o e14; have e16 := N.o e16; have e381 := N.o e381; have e383 := N.new
  refine tk (d := 384) (v := ?_) sz (wanted_is rfl rfl e381 rfl) ?_ ?_
  rotate_left 1
  · (intro ρ hρ; have r16 := (hρ _).trans e16; simp [go_sem, r16] <;> with_reducible rfl)
  intro a N; have sz := N.s sz; have df := N.d df; have e0 := N.o e0; have e1 := N.o e1; have e14 := N.o e14; have e381 := N.o e381; have e383 := N.o e383; have e384 := N.new
  refine tk (d := 385) (v := ?_) sz (wanted_is rfl rfl e381 rfl) ?_ ?_
  rotate_left 1
  · (intro ρ hρ; have r384 := (hρ _).trans e384; simp [go_sem, r384, d2] <;> with_reducible rfl)
  intro a N; have sz := N.s sz; have df := N.d df; have e0 := N.o e0; have e1 := N.o e1; have e14 := N.o e14; have e381 := N.o e381; have e383 := N.o e383; have e385 := N.new
  have en : ∀ args w, (callFunc 50 args).run Try.prog w = .ok (.enter 50 args) w := enters_of Try.func50 (by kernel_rfl) rfl
  refine wpl_call (d := 386) (f := 50) (args := #[.slice fa fn fd, .slice ra rn rd]) rfl (by rw [sz]; decide) (wanted_is rfl rfl e381 rfl) (fun ρ hρ => ?_) (rTexts_any hfl hrl) ?_
  · (have r383 := (hρ (.tmp 383)).trans e383; have r385 := (hρ (.tmp 385)).trans e385; have rf : ∀ f, ρ (.func f) = .func (.func f) #[] #[] := fun f => hρ _; simp [go_sem, r383, r385, rf, en])
  rintro e wd ⟨bb, rfl, hbb, kd⟩
  refine ⟨_, rfl, ?_⟩
  intro a N; have sz := N.s sz; have df := N.d df; have e0 := N.o e0; have e1 := N.o e1; have e14 := N.o e14; have e381 := N.o e381; have e386 := N.new
  cases bb with
  | false =>
    refine tk (d := 387) (v := ?_) sz (wanted_is rfl rfl e381 rfl) ?_ ?_
    rotate_left 1
    · (intro ρ hρ; have r386 := (hρ _).trans e386; simp [go_sem, r386] <;> with_reducible rfl)
    intro a N; have sz := N.s sz; have df := N.d df; have e0 := N.o e0; have e1 := N.o e1; have e14 := N.o e14; have e381 := N.o e381; have e387 := N.new
    refine tn (d := 388) (v := ?_) sz ?_ ?_
    rotate_left 1
    · (intro ρ hρ; have rc : ∀ v, ρ (.const v) = v := fun v => hρ _; have r381 := (hρ _).trans e381; have r387 := (hρ _).trans e387; simp [go_sem, rc, r381, r387] <;> with_reducible rfl)
    intro a N; have sz := N.s sz; have df := N.d df; have e0 := N.o e0; have e1 := N.o e1; have e14 := N.o e14; have e388 := N.new
    exact h _ wd true ⟨sz, df, e0, e1⟩ e14 e388 ⟨fun h => (by cases h), fun h => absurd (hbb.2 (congrArg (fun z => z.2.2.1) h)) (by decide)⟩ kd
  | true =>
    obtain rfl := hbb.1 rfl
    refine tk (d := 387) (v := ?_) sz (wanted_is rfl rfl e381 rfl) ?_ ?_
    rotate_left 1
    · (intro ρ hρ; have r386 := (hρ _).trans e386; simp [go_sem, r386] <;> with_reducible rfl)
    intro a N; have sz := N.s sz; have df := N.d df; have e0 := N.o e0; have e1 := N.o e1; have e14 := N.o e14; have e381 := N.o e381; have e387 := N.new
    refine tn (d := 388) (v := ?_) sz ?_ ?_
    rotate_left 1
    · (intro ρ hρ; have rc : ∀ v, ρ (.const v) = v := fun v => hρ _; have r381 := (hρ _).trans e381; have r387 := (hρ _).trans e387; simp [go_sem, rc, r381, r387] <;> with_reducible rfl)
    intro a N; have sz := N.s sz; have df := N.d df; have e0 := N.o e0; have e1 := N.o e1; have e14 := N.o e14; have e388 := N.new
    exact h _ wd false ⟨sz, df, e0, e1⟩ e14 e388 ⟨fun _ => rfl, fun _ => rfl⟩ kd

theorem reH_loop {g o g' o' n d1 d2 : Nat} {w0 : World} {b1 b2 : Option Addr} {xs ys : List (Int × ByteArray × List ByteArray × Int)} {Pb Qb : Nat → Prop} {Q : Exit → Act → World → Prop} (hQ : PanicOnly Q) (hX : LAt eHouse Pb w0 (.slice b1 n d1) xs) (hY : LAt eHouse Qb w0 (.slice b2 n d2) ys) (hn : n = xs.length) (hm : n = ys.length)
    (HP : Hid (∀ w', Keep (fun _ => False) w0 w' → w'.cell? ⟨g, o + 6, none⟩ = some (.slice b1 n d1) ∧ w'.cell? ⟨g', o' + 6, none⟩ = some (.slice b2 n d2)))
    (hret : ∀ a w, FrE (.pointer (some ⟨g, o, none⟩)) (.pointer (some ⟨g', o', none⟩)) a → a.eval (.tmp 4) = .bool false → Keep (fun _ => False) w0 w → xs ≠ ys → Q .ret a w)
    (hdone : ∀ a w, FrE (.pointer (some ⟨g, o, none⟩)) (.pointer (some ⟨g', o', none⟩)) a → Keep (fun _ => False) w0 w → xs = ys → Q .normal a w)
    {a : Act} {w : World} (ha : FrE (.pointer (some ⟨g, o, none⟩)) (.pointer (some ⟨g', o', none⟩)) a) (hi : a.eval (.tmp 14) = .int .i64 0) (hk : Keep (fun _ => False) w0 w) :
    (Code.block 6 (Code.loop (((rgEq 24).seq (Code.cond (.tmp 345) .skip (.exit 6))).seq ((Code.block 7 ((rgEq 26).seq ((rgEq 27).seq (Code.cond (.tmp 388) ((rgEq 28).seq .ret) .skip)))).seq (rgEq 25))))).wp Try.prog Q a w := by
  have hcap : (n : Int) ≤ 9223372036854775807 := by obtain ⟨_, _, e, _, h9, _⟩ := hX; simp only [Value.slice.injEq] at e; obtain ⟨_, h8, _⟩ := e; have := ‹_ ≤ maxLen›; unfold maxLen at *; omega
  refine eqLoop (i := 14) (c1 := 345) (c2 := 388) (RR := rgEq 28) (by rw [← hn, ← hm]) hQ (fun a w k Q ha hi hk h => reH_cond (n := n) ha hi (HP.out _ hk).1 (fun a' ha' hi' hc' => h a' ha' hi' (by rw [hc', hn]))) ?_ (fun a w Q ha h => reH_ret ha h) (fun a w k Q ha hi hlt h => reH_post ha hi (by omega) h) hret hdone ha hi hk
  intro a w k x y Q hQ ha hi hk hx hy h
  have hkn : k < n := by have := (List.getElem?_eq_some_iff.1 hx).1; omega
  obtain ⟨g1, o1, cs1, rfl, hg1, _, hH1, hr1⟩ := (hX.keep hk (fun _ _ _ h => h)).get k x hx
  obtain ⟨g2, o2, cs2, rfl, hg2, _, hH2, hr2⟩ := (hY.keep hk (fun _ _ _ h => h)).get k y hy
  obtain ⟨f0, f1, fl, f3⟩ := x
  obtain ⟨r0, r1, rl, r3⟩ := y
  obtain ⟨fv, hfl, hcs1⟩ := hH1
  obtain ⟨rv, hrl, hcs2⟩ := hH2
  simp only at hcs1 hcs2 hfl hrl
  obtain ⟨fa, fd, rfl, _⟩ := hfl.slice
  obtain ⟨ra, rd, rfl, _⟩ := hrl.slice
  subst hcs1 hcs2
  have HPP : Hid (∀ w', Keep (fun _ => False) w w' → w'.cell? ⟨g, o + 6, none⟩ = some (.slice (some ⟨g1, o1, none⟩) n d1) ∧ w'.cell? ⟨g', o' + 6, none⟩ = some (.slice (some ⟨g2, o2, none⟩) n d2) ∧ w'.rangeAt g1 (o1 + k * 4) _ ∧ w'.rangeAt g2 (o2 + k * 4) _) := Lib.hid (fun w' kk => ⟨(HP.out _ (hk.trans kk (fun _ h => h.elim))).1, (HP.out _ (hk.trans kk (fun _ h => h.elim))).2, rangeAt_keep hr1 kk hg1 (fun h => h), rangeAt_keep hr2 kk hg2 (fun h => h)⟩)
  refine wp_seq (reH_asg (n := n) (fun c a d v w h => hQ c a d v w h) ha hi hkn hkn HPP (fun a1 w1 h1 h2 ha1 hi1 ex1 ey1 t1 t2 k1 => ?_))
  refine wp_seq (reH_cmp (hfl := hfl.keep k1 (fun _ _ _ h => h)) (hrl := hrl.keep k1 (fun _ _ _ h => h)) ha1 hi1 ex1 ey1 t1 t2 (fun a2 w2 b ha2 hi2 hb2 hiff k2 => ?_))
  exact h a2 w2 b ha2 hi2 hb2 hiff ((hk.trans k1 (fun _ h => h.elim)).trans k2 (fun _ h => h.elim))

end Go.Proofs.Ytpefkellcigpkaa.Cd
/- codec: the reference's comparison: its loop over Tills. (made by tools/genre2.py) -/
namespace Go.Proofs.Ytpefkellcigpkaa.Cd
open Go.RowKit Go.Deep Go.Proofs.Ytpefkellcigpkaa
set_option maxRecDepth 100000

theorem reI_cond {g o g' o' : Nat} {a : Act} {w : World} {Q : Exit → Act → World → Prop} {k n d : Nat} {b : Option Addr} (ha : FrE (.pointer (some ⟨g, o, none⟩)) (.pointer (some ⟨g', o', none⟩)) a) (e20 : a.eval (.tmp 20) = .int .i64 (k : Int)) (c : w.cell? ⟨g, o + 8, none⟩ = some (.slice b n d))
    (h : ∀ a', FrE (.pointer (some ⟨g, o, none⟩)) (.pointer (some ⟨g', o', none⟩)) a' → a'.eval (.tmp 20) = .int .i64 (k : Int) → a'.eval (.tmp 465) = .bool (decide (k < n)) → Q .normal a' w) : (rgEq 36).wp Try.prog Q a w := by
  obtain ⟨sz, df, e0, e1⟩ := ha
  conv => arg 2; whnf
  refine wp_region_list ?_
  dsimp only
  refine tn (d := 459) (v := ?_) sz ?_ ?_
  rotate_left 1
  · (intro ρ hρ; have r20 := (hρ _).trans e20; simp [go_sem, r20] <;> with_reducible rfl)
  intro a N; have sz := N.s sz; have df := N.d df; have e0 := N.o e0; have e1 := N.o e1; have e20 := N.o e20; have e459 := N.new
  refine tn (d := 460) (v := ?_) sz ?_ ?_
  rotate_left 1
  · (intro ρ hρ; have r0 := (hρ _).trans e0; simp [go_sem, r0] <;> with_reducible rfl)
  intro a N; have sz := N.s sz; have df := N.d df; have e0 := N.o e0; have e1 := N.o e1; have e20 := N.o e20; have e459 := N.o e459; have e460 := N.new
  refine tn (d := 461) (v := ?_) sz ?_ ?_
  rotate_left 1
  · (intro ρ hρ; have r460 := (hρ _).trans e460; simp [go_sem, r460] <;> with_reducible rfl)
  intro a N; have sz := N.s sz; have df := N.d df; have e0 := N.o e0; have e1 := N.o e1; have e20 := N.o e20; have e459 := N.o e459; have e461 := N.new
  refine tn (d := 462) (v := ?_) sz ?_ ?_
  rotate_left 1
  · (intro ρ hρ; have r461 := (hρ _).trans e461; simp [go_sem, r461] <;> with_reducible rfl)
  intro a N; have sz := N.s sz; have df := N.d df; have e0 := N.o e0; have e1 := N.o e1; have e20 := N.o e20; have e459 := N.o e459; have e462 := N.new
  refine tn (d := 463) (v := ?_) sz ?_ ?_
  rotate_left 1
  · (intro ρ hρ; have r462 := (hρ _).trans e462; simp [go_sem, r462, c] <;> with_reducible rfl)
  intro a N; have sz := N.s sz; have df := N.d df; have e0 := N.o e0; have e1 := N.o e1; have e20 := N.o e20; have e459 := N.o e459; have e463 := N.new
  refine tn (d := 464) (v := ?_) sz ?_ ?_
  rotate_left 1
  · (intro ρ hρ; have r463 := (hρ _).trans e463; simp [go_sem, r463] <;> with_reducible rfl)
  intro a N; have sz := N.s sz; have df := N.d df; have e0 := N.o e0; have e1 := N.o e1; have e20 := N.o e20; have e459 := N.o e459; have e464 := N.new
  refine tn (d := 465) (v := ?_) sz ?_ ?_
  rotate_left 1
  · (intro ρ hρ; have r459 := (hρ _).trans e459; have r464 := (hρ _).trans e464; simp [go_sem, r459, r464] <;> with_reducible rfl)
  intro a N; have sz := N.s sz; have df := N.d df; have e0 := N.o e0; have e1 := N.o e1; have e20 := N.o e20; have e465 := N.new
  exact h _ ⟨sz, df, e0, e1⟩ e20 e465

theorem reI_post {g o g' o' : Nat} {a : Act} {w : World} {Q : Exit → Act → World → Prop} {k : Nat} (ha : FrE (.pointer (some ⟨g, o, none⟩)) (.pointer (some ⟨g', o', none⟩)) a) (e20 : a.eval (.tmp 20) = .int .i64 (k : Int)) (hk : (k : Int) + 1 ≤ 9223372036854775807)
    (h : ∀ a', FrE (.pointer (some ⟨g, o, none⟩)) (.pointer (some ⟨g', o', none⟩)) a' → a'.eval (.tmp 20) = .int .i64 ((k + 1 : Nat) : Int) → Q .normal a' w) : (rgEq 37).wp Try.prog Q a w := by
  obtain ⟨sz, df, e0, e1⟩ := ha
  have hwr : IntKind.i64.wrap ((k : Int) + 1) = ((k + 1 : Nat) : Int) := i64_nat (k + 1) (by omega)
  conv => arg 2; whnf
  refine wp_region_list ?_
  dsimp only
  refine tn (d := 466) (v := ?_) sz ?_ ?_
  rotate_left 1
  · (intro ρ hρ; have r20 := (hρ _).trans e20; simp [go_sem, r20] <;> with_reducible rfl)
  intro a N; have sz := N.s sz; have df := N.d df; have e0 := N.o e0; have e1 := N.o e1; have e20 := N.o e20; have e466 := N.new
  refine tn (d := 467) (v := ?_) sz ?_ ?_
  rotate_left 1
  · (intro ρ hρ; have rc : ∀ v, ρ (.const v) = v := fun v => hρ _; have r466 := (hρ _).trans e466; simp [go_sem, rc, r466, hwr] <;> with_reducible rfl)
  intro a N; have sz := N.s sz; have df := N.d df; have e0 := N.o e0; have e1 := N.o e1; have e20 := N.o e20; have e467 := N.new
  refine tn (d := 20) (v := ?_) sz ?_ ?_
  rotate_left 1
  · (intro ρ hρ; have r467 := (hρ _).trans e467; simp [go_sem, r467] <;> with_reducible rfl)
  intro a N; have sz := N.s sz; have df := N.d df; have e0 := N.o e0; have e1 := N.o e1; have e20 := N.new
  exact h _ ⟨sz, df, e0, e1⟩ e20

theorem reI_ret {g o g' o' : Nat} {a : Act} {w : World} {Q : Exit → Act → World → Prop} (ha : FrE (.pointer (some ⟨g, o, none⟩)) (.pointer (some ⟨g', o', none⟩)) a) (h : ∀ a', FrE (.pointer (some ⟨g, o, none⟩)) (.pointer (some ⟨g', o', none⟩)) a' → a'.eval (.tmp 4) = .bool false → Q .normal a' w) : (rgEq 39).wp Try.prog Q a w := by
  obtain ⟨sz, df, e0, e1⟩ := ha
  conv => arg 2; whnf
  refine wp_region_list ?_
  dsimp only
  refine tn (d := 4) (v := ?_) sz ?_ ?_
  rotate_left 1
  · (intro ρ hρ; have rc : ∀ v, ρ (.const v) = v := fun v => hρ _; simp [go_sem, rc] <;> with_reducible rfl)
  intro a N; have sz := N.s sz; have df := N.d df; have e0 := N.o e0; have e1 := N.o e1; have e4 := N.new
  exact h _ ⟨sz, df, e0, e1⟩ e4

set_option maxHeartbeats 4000000 in
theorem reI_cmp {g o g' o' : Nat} {a : Act} {w : World} {Q : Exit → Act → World → Prop} {k n d1 d2 g1 o1 g2 o2 : Nat} {f0 : Int} {f1 : Int} {r0 : Int} {r1 : Int} (hQ : PanicOnly Q) (ha : FrE (.pointer (some ⟨g, o, none⟩)) (.pointer (some ⟨g', o', none⟩)) a) (e20 : a.eval (.tmp 20) = .int .i64 (k : Int)) (h1 : k < n)
    (HP : Hid (∀ w', Keep (fun _ => False) w w' → w'.cell? ⟨g, o + 8, none⟩ = some (.slice (some ⟨g1, o1, none⟩) n d1) ∧ w'.cell? ⟨g', o' + 8, none⟩ = some (.slice (some ⟨g2, o2, none⟩) n d2) ∧ w'.rangeAt g1 (o1 + k * 2) [.int .i64 f0, .int .i64 f1] ∧ w'.rangeAt g2 (o2 + k * 2) [.int .i64 r0, .int .i64 r1]))
    (h : ∀ a' w' b, FrE (.pointer (some ⟨g, o, none⟩)) (.pointer (some ⟨g', o', none⟩)) a' → a'.eval (.tmp 20) = .int .i64 (k : Int) → a'.eval (.tmp 503) = .bool b → (b = false ↔ (((f0, f1) : Int × Int) = (r0, r1))) → Keep (fun _ => False) w w' → Q .normal a' w') : (rgEq 38).wp Try.prog Q a w := by
  obtain ⟨sz, df, e0, e1⟩ := ha
  conv => arg 2; whnf
  refine wp_region_z (fun w' => Keep (fun _ => False) w w') [] (by kernel_rfl) ?_
  have HS : Hid ((fun w' => Keep (fun _ => False) w w') w.drew) := Lib.hid ((Keep.refl (fun _ => False) w).drew)
  refine wz_take (i := 0) (d := 468) (v := ?_) rfl rfl (by rw [sz]; decide) (wanted_none rfl _) (by kernel_rfl) (by kernel_rfl) (by kernel_rfl) (fun c a w h => hQ c _ _ _ w h) (by kernel_rfl) HS.out ?_ ?_
  rotate_left 1
  · (intro w9 hS9 ρ hρ; have r0 := (hρ _).trans e0; simp [go_sem, r0] <;> with_reducible rfl)
  intro a N; have sz := N.s sz; have df := N.d df; have e0 := N.o e0; have e1 := N.o e1; have e20 := N.o e20; have e468 := N.new
  refine wz_take (i := 1) (d := 469) (v := ?_) rfl rfl (by rw [sz]; decide) (wanted_none rfl _) (by kernel_rfl) (by kernel_rfl) (by kernel_rfl) (fun c a w h => hQ c _ _ _ w h) (by kernel_rfl) HS.out ?_ ?_
  rotate_left 1
  · (intro w9 hS9 ρ hρ; have r468 := (hρ _).trans e468; simp [go_sem, r468] <;> with_reducible rfl)
  intro a N; have sz := N.s sz; have df := N.d df; have e0 := N.o e0; have e1 := N.o e1; have e20 := N.o e20; have e469 := N.new
  refine wz_take (i := 2) (d := 470) (v := ?_) rfl rfl (by rw [sz]; decide) (wanted_none rfl _) (by kernel_rfl) (by kernel_rfl) (by kernel_rfl) (fun c a w h => hQ c _ _ _ w h) (by kernel_rfl) HS.out ?_ ?_
  rotate_left 1
  · (intro w9 hS9 ρ hρ; have r469 := (hρ _).trans e469; simp [go_sem, r469] <;> with_reducible rfl)
  intro a N; have sz := N.s sz; have df := N.d df; have e0 := N.o e0; have e1 := N.o e1; have e20 := N.o e20; have e470 := N.new
  refine wz_take (i := 3) (d := 471) (v := ?_) rfl rfl (by rw [sz]; decide) (wanted_none rfl _) (by kernel_rfl) (by kernel_rfl) (by kernel_rfl) (fun c a w h => hQ c _ _ _ w h) (by kernel_rfl) HS.out ?_ ?_
  rotate_left 1
  · (intro w9 hS9 ρ hρ; have c := (HP.out _ hS9).1; have c' := (HP.out _ hS9).2.1; have c0 : w9.cell? ⟨g1, o1 + k * 2, none⟩ = some (.int .i64 f0) := (by simpa using (HP.out _ hS9).2.2.1 0 _ rfl); have d0 : w9.cell? ⟨g2, o2 + k * 2, none⟩ = some (.int .i64 r0) := (by simpa using (HP.out _ hS9).2.2.2 0 _ rfl); have c1 : w9.cell? ⟨g1, o1 + k * 2 + 1, none⟩ = some (.int .i64 f1) := (by simpa using (HP.out _ hS9).2.2.1 1 _ rfl); have d1 : w9.cell? ⟨g2, o2 + k * 2 + 1, none⟩ = some (.int .i64 r1) := (by simpa using (HP.out _ hS9).2.2.2 1 _ rfl); have r470 := (hρ _).trans e470; simp [go_sem, r470, c] <;> with_reducible rfl)
  intro a N; have sz := N.s sz; have df := N.d df; have e0 := N.o e0; have e1 := N.o e1; have e20 := N.o e20; have e471 := N.new
  refine wz_take (i := 4) (d := 472) (v := ?_) rfl rfl (by rw [sz]; decide) (wanted_none rfl _) (by kernel_rfl) (by kernel_rfl) (by kernel_rfl) (fun c a w h => hQ c _ _ _ w h) (by kernel_rfl) HS.out ?_ ?_
  rotate_left 1
  · (intro w9 hS9 ρ hρ; have r20 := (hρ _).trans e20; simp [go_sem, r20] <;> with_reducible rfl)
  intro a N; have sz := N.s sz; have df := N.d df; have e0 := N.o e0; have e1 := N.o e1; have e20 := N.o e20; have e471 := N.o e471; have e472 := N.new
  refine wz_take (i := 5) (d := 473) (v := ?_) rfl rfl (by rw [sz]; decide) (wanted_none rfl _) (by kernel_rfl) (by kernel_rfl) (by kernel_rfl) (fun c a w h => hQ c _ _ _ w h) (by kernel_rfl) HS.out ?_ ?_
  rotate_left 1
  · (intro w9 hS9 ρ hρ; have r471 := (hρ _).trans e471; have r472 := (hρ _).trans e472; simp [go_sem, r471, r472, h1] <;> with_reducible rfl)
  intro a N; have sz := N.s sz; have df := N.d df; have e0 := N.o e0; have e1 := N.o e1; have e20 := N.o e20; have e473 := N.new
  refine wz_take (i := 6) (d := 474) (v := ?_) rfl rfl (by rw [sz]; decide) (wanted_none rfl _) (by kernel_rfl) (by kernel_rfl) (by kernel_rfl) (fun c a w h => hQ c _ _ _ w h) (by kernel_rfl) HS.out ?_ ?_
  rotate_left 1
  · (intro w9 hS9 ρ hρ; have r473 := (hρ _).trans e473; simp [go_sem, r473] <;> with_reducible rfl)
  intro a N; have sz := N.s sz; have df := N.d df; have e0 := N.o e0; have e1 := N.o e1; have e20 := N.o e20; have e474 := N.new
  refine wz_take (i := 7) (d := 475) (v := ?_) rfl rfl (by rw [sz]; decide) (wanted_none rfl _) (by kernel_rfl) (by kernel_rfl) (by kernel_rfl) (fun c a w h => hQ c _ _ _ w h) (by kernel_rfl) HS.out ?_ ?_
  rotate_left 1
  · (intro w9 hS9 ρ hρ; have c := (HP.out _ hS9).1; have c' := (HP.out _ hS9).2.1; have c0 : w9.cell? ⟨g1, o1 + k * 2, none⟩ = some (.int .i64 f0) := (by simpa using (HP.out _ hS9).2.2.1 0 _ rfl); have d0 : w9.cell? ⟨g2, o2 + k * 2, none⟩ = some (.int .i64 r0) := (by simpa using (HP.out _ hS9).2.2.2 0 _ rfl); have c1 : w9.cell? ⟨g1, o1 + k * 2 + 1, none⟩ = some (.int .i64 f1) := (by simpa using (HP.out _ hS9).2.2.1 1 _ rfl); have d1 : w9.cell? ⟨g2, o2 + k * 2 + 1, none⟩ = some (.int .i64 r1) := (by simpa using (HP.out _ hS9).2.2.2 1 _ rfl); have r474 := (hρ _).trans e474; simp [go_sem, r474, c0] <;> with_reducible rfl)
  intro a N; have sz := N.s sz; have df := N.d df; have e0 := N.o e0; have e1 := N.o e1; have e20 := N.o e20; have e475 := N.new
  refine wz_take (i := 8) (d := 476) (v := ?_) rfl rfl (by rw [sz]; decide) (wanted_none rfl _) (by kernel_rfl) (by kernel_rfl) (by kernel_rfl) (fun c a w h => hQ c _ _ _ w h) (by kernel_rfl) HS.out ?_ ?_
  rotate_left 1
  · (intro w9 hS9 ρ hρ; have r1 := (hρ _).trans e1; simp [go_sem, r1] <;> with_reducible rfl)
  intro a N; have sz := N.s sz; have df := N.d df; have e0 := N.o e0; have e1 := N.o e1; have e20 := N.o e20; have e475 := N.o e475; have e476 := N.new
  refine wz_take (i := 9) (d := 477) (v := ?_) rfl rfl (by rw [sz]; decide) (wanted_none rfl _) (by kernel_rfl) (by kernel_rfl) (by kernel_rfl) (fun c a w h => hQ c _ _ _ w h) (by kernel_rfl) HS.out ?_ ?_
  rotate_left 1
  · (intro w9 hS9 ρ hρ; have r476 := (hρ _).trans e476; simp [go_sem, r476] <;> with_reducible rfl)
  intro a N; have sz := N.s sz; have df := N.d df; have e0 := N.o e0; have e1 := N.o e1; have e20 := N.o e20; have e475 := N.o e475; have e477 := N.new
  refine wz_take (i := 10) (d := 478) (v := ?_) rfl rfl (by rw [sz]; decide) (wanted_none rfl _) (by kernel_rfl) (by kernel_rfl) (by kernel_rfl) (fun c a w h => hQ c _ _ _ w h) (by kernel_rfl) HS.out ?_ ?_
  rotate_left 1
  · (intro w9 hS9 ρ hρ; have r477 := (hρ _).trans e477; simp [go_sem, r477] <;> with_reducible rfl)
  intro a N; have sz := N.s sz; have df := N.d df; have e0 := N.o e0; have e1 := N.o e1; have e20 := N.o e20; have e475 := N.o e475; have e478 := N.new
  refine wz_take (i := 11) (d := 479) (v := ?_) rfl rfl (by rw [sz]; decide) (wanted_none rfl _) (by kernel_rfl) (by kernel_rfl) (by kernel_rfl) (fun c a w h => hQ c _ _ _ w h) (by kernel_rfl) HS.out ?_ ?_
  rotate_left 1
  · (intro w9 hS9 ρ hρ; have c := (HP.out _ hS9).1; have c' := (HP.out _ hS9).2.1; have c0 : w9.cell? ⟨g1, o1 + k * 2, none⟩ = some (.int .i64 f0) := (by simpa using (HP.out _ hS9).2.2.1 0 _ rfl); have d0 : w9.cell? ⟨g2, o2 + k * 2, none⟩ = some (.int .i64 r0) := (by simpa using (HP.out _ hS9).2.2.2 0 _ rfl); have c1 : w9.cell? ⟨g1, o1 + k * 2 + 1, none⟩ = some (.int .i64 f1) := (by simpa using (HP.out _ hS9).2.2.1 1 _ rfl); have d1 : w9.cell? ⟨g2, o2 + k * 2 + 1, none⟩ = some (.int .i64 r1) := (by simpa using (HP.out _ hS9).2.2.2 1 _ rfl); have r478 := (hρ _).trans e478; simp [go_sem, r478, c'] <;> with_reducible rfl)
  intro a N; have sz := N.s sz; have df := N.d df; have e0 := N.o e0; have e1 := N.o e1; have e20 := N.o e20; have e475 := N.o e475; have e479 := N.new
  refine wz_take (i := 12) (d := 480) (v := ?_) rfl rfl (by rw [sz]; decide) (wanted_none rfl _) (by kernel_rfl) (by kernel_rfl) (by kernel_rfl) (fun c a w h => hQ c _ _ _ w h) (by kernel_rfl) HS.out ?_ ?_
  rotate_left 1
  · (intro w9 hS9 ρ hρ; have r20 := (hρ _).trans e20; simp [go_sem, r20] <;> with_reducible rfl)
  intro a N; have sz := N.s sz; have df := N.d df; have e0 := N.o e0; have e1 := N.o e1; have e20 := N.o e20; have e475 := N.o e475; have e479 := N.o e479; have e480 := N.new
  refine wz_take (i := 13) (d := 481) (v := ?_) rfl rfl (by rw [sz]; decide) (wanted_none rfl _) (by kernel_rfl) (by kernel_rfl) (by kernel_rfl) (fun c a w h => hQ c _ _ _ w h) (by kernel_rfl) HS.out ?_ ?_
  rotate_left 1
  · (intro w9 hS9 ρ hρ; have r479 := (hρ _).trans e479; have r480 := (hρ _).trans e480; simp [go_sem, r479, r480, h1] <;> with_reducible rfl)
  intro a N; have sz := N.s sz; have df := N.d df; have e0 := N.o e0; have e1 := N.o e1; have e20 := N.o e20; have e475 := N.o e475; have e481 := N.new
  refine wz_take (i := 14) (d := 482) (v := ?_) rfl rfl (by rw [sz]; decide) (wanted_none rfl _) (by kernel_rfl) (by kernel_rfl) (by kernel_rfl) (fun c a w h => hQ c _ _ _ w h) (by kernel_rfl) HS.out ?_ ?_
  rotate_left 1
  · (intro w9 hS9 ρ hρ; have r481 := (hρ _).trans e481; simp [go_sem, r481] <;> with_reducible rfl)
  intro a N; have sz := N.s sz; have df := N.d df; have e0 := N.o e0; have e1 := N.o e1; have e20 := N.o e20; have e475 := N.o e475; have e482 := N.new
  refine wz_take (i := 15) (d := 483) (v := ?_) rfl rfl (by rw [sz]; decide) (wanted_none rfl _) (by kernel_rfl) (by kernel_rfl) (by kernel_rfl) (fun c a w h => hQ c _ _ _ w h) (by kernel_rfl) HS.out ?_ ?_
  rotate_left 1
  · (intro w9 hS9 ρ hρ; have c := (HP.out _ hS9).1; have c' := (HP.out _ hS9).2.1; have c0 : w9.cell? ⟨g1, o1 + k * 2, none⟩ = some (.int .i64 f0) := (by simpa using (HP.out _ hS9).2.2.1 0 _ rfl); have d0 : w9.cell? ⟨g2, o2 + k * 2, none⟩ = some (.int .i64 r0) := (by simpa using (HP.out _ hS9).2.2.2 0 _ rfl); have c1 : w9.cell? ⟨g1, o1 + k * 2 + 1, none⟩ = some (.int .i64 f1) := (by simpa using (HP.out _ hS9).2.2.1 1 _ rfl); have d1 : w9.cell? ⟨g2, o2 + k * 2 + 1, none⟩ = some (.int .i64 r1) := (by simpa using (HP.out _ hS9).2.2.2 1 _ rfl); have r482 := (hρ _).trans e482; simp [go_sem, r482, d0] <;> with_reducible rfl)
  intro a N; have sz := N.s sz; have df := N.d df; have e0 := N.o e0; have e1 := N.o e1; have e20 := N.o e20; have e475 := N.o e475; have e483 := N.new
  by_cases hf0 : f0 = r0
  rotate_left 1
  · have hq : (f0 != r0) = true := by simpa using hf0
    refine wz_take (i := 16) (d := 484) (v := ?_) rfl rfl (by rw [sz]; decide) (wanted_none rfl _) (by kernel_rfl) (by kernel_rfl) (by kernel_rfl) (fun c a w h => hQ c _ _ _ w h) (by kernel_rfl) HS.out ?_ ?_
    rotate_left 1
    · (intro w9 hS9 ρ hρ; have r475 := (hρ _).trans e475; have r483 := (hρ _).trans e483; simp [go_sem, r475, r483, hq] <;> with_reducible rfl)
    intro a N; have sz := N.s sz; have df := N.d df; have e0 := N.o e0; have e1 := N.o e1; have e20 := N.o e20; have e484 := N.new
    refine wz_take (i := 17) (d := 485) (v := ?_) rfl rfl (by rw [sz]; decide) (wanted_none rfl _) (by kernel_rfl) (by kernel_rfl) (by kernel_rfl) (fun c a w h => hQ c _ _ _ w h) (by kernel_rfl) HS.out ?_ ?_
    rotate_left 1
    · (intro w9 hS9 ρ hρ; have r484 := (hρ _).trans e484; simp [go_sem, r484] <;> with_reducible rfl)
    intro a N; have sz := N.s sz; have df := N.d df; have e0 := N.o e0; have e1 := N.o e1; have e20 := N.o e20; have e485 := N.new
    refine wz_skip (i := 18) (d := 486) rfl rfl (by rw [sz]; decide) (wanted_is rfl rfl e485 rfl) (by kernel_rfl) (by kernel_rfl) (by kernel_rfl) (fun c a w h => hQ c _ _ _ w h) ?_
    intro a N; have sz := N.s sz; have df := N.d df; have e0 := N.o e0; have e1 := N.o e1; have e20 := N.o e20; have e485 := N.o e485; have e486 := N.new
    refine wz_skip (i := 19) (d := 487) rfl rfl (by rw [sz]; decide) (wanted_is rfl rfl e485 rfl) (by kernel_rfl) (by kernel_rfl) (by kernel_rfl) (fun c a w h => hQ c _ _ _ w h) ?_
    intro a N; have sz := N.s sz; have df := N.d df; have e0 := N.o e0; have e1 := N.o e1; have e20 := N.o e20; have e485 := N.o e485; have e487 := N.new
    refine wz_skip (i := 20) (d := 488) rfl rfl (by rw [sz]; decide) (wanted_is rfl rfl e485 rfl) (by kernel_rfl) (by kernel_rfl) (by kernel_rfl) (fun c a w h => hQ c _ _ _ w h) ?_
    intro a N; have sz := N.s sz; have df := N.d df; have e0 := N.o e0; have e1 := N.o e1; have e20 := N.o e20; have e485 := N.o e485; have e488 := N.new
    refine wz_skip (i := 21) (d := 489) rfl rfl (by rw [sz]; decide) (wanted_is rfl rfl e485 rfl) (by kernel_rfl) (by kernel_rfl) (by kernel_rfl) (fun c a w h => hQ c _ _ _ w h) ?_
    intro a N; have sz := N.s sz; have df := N.d df; have e0 := N.o e0; have e1 := N.o e1; have e20 := N.o e20; have e485 := N.o e485; have e489 := N.new
    refine wz_skip (i := 22) (d := 490) rfl rfl (by rw [sz]; decide) (wanted_is rfl rfl e485 rfl) (by kernel_rfl) (by kernel_rfl) (by kernel_rfl) (fun c a w h => hQ c _ _ _ w h) ?_
    intro a N; have sz := N.s sz; have df := N.d df; have e0 := N.o e0; have e1 := N.o e1; have e20 := N.o e20; have e485 := N.o e485; have e489 := N.o e489; have e490 := N.new
    refine wz_skip (i := 23) (d := 491) rfl rfl (by rw [sz]; decide) (wanted_is rfl rfl e485 rfl) (by kernel_rfl) (by kernel_rfl) (by kernel_rfl) (fun c a w h => hQ c _ _ _ w h) ?_
    intro a N; have sz := N.s sz; have df := N.d df; have e0 := N.o e0; have e1 := N.o e1; have e20 := N.o e20; have e485 := N.o e485; have e491 := N.new
    refine wz_skip (i := 24) (d := 492) rfl rfl (by rw [sz]; decide) (wanted_is rfl rfl e485 rfl) (by kernel_rfl) (by kernel_rfl) (by kernel_rfl) (fun c a w h => hQ c _ _ _ w h) ?_
    intro a N; have sz := N.s sz; have df := N.d df; have e0 := N.o e0; have e1 := N.o e1; have e20 := N.o e20; have e485 := N.o e485; have e492 := N.new
    refine wz_skip (i := 25) (d := 493) rfl rfl (by rw [sz]; decide) (wanted_is rfl rfl e485 rfl) (by kernel_rfl) (by kernel_rfl) (by kernel_rfl) (fun c a w h => hQ c _ _ _ w h) ?_
    intro a N; have sz := N.s sz; have df := N.d df; have e0 := N.o e0; have e1 := N.o e1; have e20 := N.o e20; have e485 := N.o e485; have e493 := N.new
    refine wz_skip (i := 26) (d := 494) rfl rfl (by rw [sz]; decide) (wanted_is rfl rfl e485 rfl) (by kernel_rfl) (by kernel_rfl) (by kernel_rfl) (fun c a w h => hQ c _ _ _ w h) ?_
    intro a N; have sz := N.s sz; have df := N.d df; have e0 := N.o e0; have e1 := N.o e1; have e20 := N.o e20; have e485 := N.o e485; have e493 := N.o e493; have e494 := N.new
    refine wz_skip (i := 27) (d := 495) rfl rfl (by rw [sz]; decide) (wanted_is rfl rfl e485 rfl) (by kernel_rfl) (by kernel_rfl) (by kernel_rfl) (fun c a w h => hQ c _ _ _ w h) ?_
    intro a N; have sz := N.s sz; have df := N.d df; have e0 := N.o e0; have e1 := N.o e1; have e20 := N.o e20; have e485 := N.o e485; have e493 := N.o e493; have e495 := N.new
    refine wz_skip (i := 28) (d := 496) rfl rfl (by rw [sz]; decide) (wanted_is rfl rfl e485 rfl) (by kernel_rfl) (by kernel_rfl) (by kernel_rfl) (fun c a w h => hQ c _ _ _ w h) ?_
    intro a N; have sz := N.s sz; have df := N.d df; have e0 := N.o e0; have e1 := N.o e1; have e20 := N.o e20; have e485 := N.o e485; have e493 := N.o e493; have e496 := N.new
    refine wz_skip (i := 29) (d := 497) rfl rfl (by rw [sz]; decide) (wanted_is rfl rfl e485 rfl) (by kernel_rfl) (by kernel_rfl) (by kernel_rfl) (fun c a w h => hQ c _ _ _ w h) ?_
    intro a N; have sz := N.s sz; have df := N.d df; have e0 := N.o e0; have e1 := N.o e1; have e20 := N.o e20; have e485 := N.o e485; have e493 := N.o e493; have e497 := N.new
    refine wz_skip (i := 30) (d := 498) rfl rfl (by rw [sz]; decide) (wanted_is rfl rfl e485 rfl) (by kernel_rfl) (by kernel_rfl) (by kernel_rfl) (fun c a w h => hQ c _ _ _ w h) ?_
    intro a N; have sz := N.s sz; have df := N.d df; have e0 := N.o e0; have e1 := N.o e1; have e20 := N.o e20; have e485 := N.o e485; have e493 := N.o e493; have e497 := N.o e497; have e498 := N.new
    refine wz_skip (i := 31) (d := 499) rfl rfl (by rw [sz]; decide) (wanted_is rfl rfl e485 rfl) (by kernel_rfl) (by kernel_rfl) (by kernel_rfl) (fun c a w h => hQ c _ _ _ w h) ?_
    intro a N; have sz := N.s sz; have df := N.d df; have e0 := N.o e0; have e1 := N.o e1; have e20 := N.o e20; have e485 := N.o e485; have e493 := N.o e493; have e499 := N.new
    refine wz_skip (i := 32) (d := 500) rfl rfl (by rw [sz]; decide) (wanted_is rfl rfl e485 rfl) (by kernel_rfl) (by kernel_rfl) (by kernel_rfl) (fun c a w h => hQ c _ _ _ w h) ?_
    intro a N; have sz := N.s sz; have df := N.d df; have e0 := N.o e0; have e1 := N.o e1; have e20 := N.o e20; have e485 := N.o e485; have e493 := N.o e493; have e500 := N.new
    refine wz_skip (i := 33) (d := 501) rfl rfl (by rw [sz]; decide) (wanted_is rfl rfl e485 rfl) (by kernel_rfl) (by kernel_rfl) (by kernel_rfl) (fun c a w h => hQ c _ _ _ w h) ?_
    intro a N; have sz := N.s sz; have df := N.d df; have e0 := N.o e0; have e1 := N.o e1; have e20 := N.o e20; have e485 := N.o e485; have e493 := N.o e493; have e501 := N.new
    refine wz_skip (i := 34) (d := 502) rfl rfl (by rw [sz]; decide) (wanted_is rfl rfl e485 rfl) (by kernel_rfl) (by kernel_rfl) (by kernel_rfl) (fun c a w h => hQ c _ _ _ w h) ?_
    intro a N; have sz := N.s sz; have df := N.d df; have e0 := N.o e0; have e1 := N.o e1; have e20 := N.o e20; have e485 := N.o e485; have e502 := N.new
    refine wz_take (i := 35) (d := 503) (v := ?_) rfl rfl (by rw [sz]; decide) (wanted_none rfl _) (by kernel_rfl) (by kernel_rfl) (by kernel_rfl) (fun c a w h => hQ c _ _ _ w h) (by kernel_rfl) HS.out ?_ ?_
    rotate_left 1
    · (intro w9 hS9 ρ hρ; have rc : ∀ v, ρ (.const v) = v := fun v => hρ _; have r485 := (hρ _).trans e485; have r502 := (hρ _).trans e502; simp [go_sem, rc, r485, r502] <;> with_reducible rfl)
    intro a N; have sz := N.s sz; have df := N.d df; have e0 := N.o e0; have e1 := N.o e1; have e20 := N.o e20; have e503 := N.new
    refine wpAnyZ_done (by kernel_rfl) ?_ _; exact h _ _ true ⟨sz, df, e0, e1⟩ e20 e503 ⟨fun h => (by cases h), fun h => absurd (congrArg (fun z => z.1) h) hf0⟩ ((Keep.refl _ w).drew)
  subst hf0
  refine wz_take (i := 16) (d := 484) (v := ?_) rfl rfl (by rw [sz]; decide) (wanted_none rfl _) (by kernel_rfl) (by kernel_rfl) (by kernel_rfl) (fun c a w h => hQ c _ _ _ w h) (by kernel_rfl) HS.out ?_ ?_
  rotate_left 1
  · (intro w9 hS9 ρ hρ; have r475 := (hρ _).trans e475; have r483 := (hρ _).trans e483; simp [go_sem, r475, r483] <;> with_reducible rfl)
  intro a N; have sz := N.s sz; have df := N.d df; have e0 := N.o e0; have e1 := N.o e1; have e20 := N.o e20; have e484 := N.new
  refine wz_take (i := 17) (d := 485) (v := ?_) rfl rfl (by rw [sz]; decide) (wanted_none rfl _) (by kernel_rfl) (by kernel_rfl) (by kernel_rfl) (fun c a w h => hQ c _ _ _ w h) (by kernel_rfl) HS.out ?_ ?_
  rotate_left 1
  · (intro w9 hS9 ρ hρ; have r484 := (hρ _).trans e484; simp [go_sem, r484] <;> with_reducible rfl)
  intro a N; have sz := N.s sz; have df := N.d df; have e0 := N.o e0; have e1 := N.o e1; have e20 := N.o e20; have e485 := N.new
  refine wz_take (i := 18) (d := 486) (v := ?_) rfl rfl (by rw [sz]; decide) (wanted_is rfl rfl e485 rfl) (by kernel_rfl) (by kernel_rfl) (by kernel_rfl) (fun c a w h => hQ c _ _ _ w h) (by kernel_rfl) HS.out ?_ ?_
  rotate_left 1
  · (intro w9 hS9 ρ hρ; have r0 := (hρ _).trans e0; simp [go_sem, r0] <;> with_reducible rfl)
  intro a N; have sz := N.s sz; have df := N.d df; have e0 := N.o e0; have e1 := N.o e1; have e20 := N.o e20; have e485 := N.o e485; have e486 := N.new
  refine wz_take (i := 19) (d := 487) (v := ?_) rfl rfl (by rw [sz]; decide) (wanted_is rfl rfl e485 rfl) (by kernel_rfl) (by kernel_rfl) (by kernel_rfl) (fun c a w h => hQ c _ _ _ w h) (by kernel_rfl) HS.out ?_ ?_
  rotate_left 1
  · (intro w9 hS9 ρ hρ; have r486 := (hρ _).trans e486; simp [go_sem, r486] <;> with_reducible rfl)
  intro a N; have sz := N.s sz; have df := N.d df; have e0 := N.o e0; have e1 := N.o e1; have e20 := N.o e20; have e485 := N.o e485; have e487 := N.new
  refine wz_take (i := 20) (d := 488) (v := ?_) rfl rfl (by rw [sz]; decide) (wanted_is rfl rfl e485 rfl) (by kernel_rfl) (by kernel_rfl) (by kernel_rfl) (fun c a w h => hQ c _ _ _ w h) (by kernel_rfl) HS.out ?_ ?_
  rotate_left 1
  · (intro w9 hS9 ρ hρ; have r487 := (hρ _).trans e487; simp [go_sem, r487] <;> with_reducible rfl)
  intro a N; have sz := N.s sz; have df := N.d df; have e0 := N.o e0; have e1 := N.o e1; have e20 := N.o e20; have e485 := N.o e485; have e488 := N.new
  refine wz_take (i := 21) (d := 489) (v := ?_) rfl rfl (by rw [sz]; decide) (wanted_is rfl rfl e485 rfl) (by kernel_rfl) (by kernel_rfl) (by kernel_rfl) (fun c a w h => hQ c _ _ _ w h) (by kernel_rfl) HS.out ?_ ?_
  rotate_left 1
  · (intro w9 hS9 ρ hρ; have c := (HP.out _ hS9).1; have c' := (HP.out _ hS9).2.1; have c0 : w9.cell? ⟨g1, o1 + k * 2, none⟩ = some (.int .i64 f0) := (by simpa using (HP.out _ hS9).2.2.1 0 _ rfl); have d0 : w9.cell? ⟨g2, o2 + k * 2, none⟩ = some (.int .i64 f0) := (by simpa using (HP.out _ hS9).2.2.2 0 _ rfl); have c1 : w9.cell? ⟨g1, o1 + k * 2 + 1, none⟩ = some (.int .i64 f1) := (by simpa using (HP.out _ hS9).2.2.1 1 _ rfl); have d1 : w9.cell? ⟨g2, o2 + k * 2 + 1, none⟩ = some (.int .i64 r1) := (by simpa using (HP.out _ hS9).2.2.2 1 _ rfl); have r488 := (hρ _).trans e488; simp [go_sem, r488, c] <;> with_reducible rfl)
  intro a N; have sz := N.s sz; have df := N.d df; have e0 := N.o e0; have e1 := N.o e1; have e20 := N.o e20; have e485 := N.o e485; have e489 := N.new
  refine wz_take (i := 22) (d := 490) (v := ?_) rfl rfl (by rw [sz]; decide) (wanted_is rfl rfl e485 rfl) (by kernel_rfl) (by kernel_rfl) (by kernel_rfl) (fun c a w h => hQ c _ _ _ w h) (by kernel_rfl) HS.out ?_ ?_
  rotate_left 1
  · (intro w9 hS9 ρ hρ; have r20 := (hρ _).trans e20; simp [go_sem, r20] <;> with_reducible rfl)
  intro a N; have sz := N.s sz; have df := N.d df; have e0 := N.o e0; have e1 := N.o e1; have e20 := N.o e20; have e485 := N.o e485; have e489 := N.o e489; have e490 := N.new
  refine wz_take (i := 23) (d := 491) (v := ?_) rfl rfl (by rw [sz]; decide) (wanted_is rfl rfl e485 rfl) (by kernel_rfl) (by kernel_rfl) (by kernel_rfl) (fun c a w h => hQ c _ _ _ w h) (by kernel_rfl) HS.out ?_ ?_
  rotate_left 1
  · (intro w9 hS9 ρ hρ; have r489 := (hρ _).trans e489; have r490 := (hρ _).trans e490; simp [go_sem, r489, r490, h1] <;> with_reducible rfl)
  intro a N; have sz := N.s sz; have df := N.d df; have e0 := N.o e0; have e1 := N.o e1; have e20 := N.o e20; have e485 := N.o e485; have e491 := N.new
  refine wz_take (i := 24) (d := 492) (v := ?_) rfl rfl (by rw [sz]; decide) (wanted_is rfl rfl e485 rfl) (by kernel_rfl) (by kernel_rfl) (by kernel_rfl) (fun c a w h => hQ c _ _ _ w h) (by kernel_rfl) HS.out ?_ ?_
  rotate_left 1
  · (intro w9 hS9 ρ hρ; have r491 := (hρ _).trans e491; simp [go_sem, r491] <;> with_reducible rfl)
  intro a N; have sz := N.s sz; have df := N.d df; have e0 := N.o e0; have e1 := N.o e1; have e20 := N.o e20; have e485 := N.o e485; have e492 := N.new
  refine wz_take (i := 25) (d := 493) (v := ?_) rfl rfl (by rw [sz]; decide) (wanted_is rfl rfl e485 rfl) (by kernel_rfl) (by kernel_rfl) (by kernel_rfl) (fun c a w h => hQ c _ _ _ w h) (by kernel_rfl) HS.out ?_ ?_
  rotate_left 1
  · (intro w9 hS9 ρ hρ; have c := (HP.out _ hS9).1; have c' := (HP.out _ hS9).2.1; have c0 : w9.cell? ⟨g1, o1 + k * 2, none⟩ = some (.int .i64 f0) := (by simpa using (HP.out _ hS9).2.2.1 0 _ rfl); have d0 : w9.cell? ⟨g2, o2 + k * 2, none⟩ = some (.int .i64 f0) := (by simpa using (HP.out _ hS9).2.2.2 0 _ rfl); have c1 : w9.cell? ⟨g1, o1 + k * 2 + 1, none⟩ = some (.int .i64 f1) := (by simpa using (HP.out _ hS9).2.2.1 1 _ rfl); have d1 : w9.cell? ⟨g2, o2 + k * 2 + 1, none⟩ = some (.int .i64 r1) := (by simpa using (HP.out _ hS9).2.2.2 1 _ rfl); have r492 := (hρ _).trans e492; simp [go_sem, r492, c1] <;> with_reducible rfl)
  intro a N; have sz := N.s sz; have df := N.d df; have e0 := N.o e0; have e1 := N.o e1; have e20 := N.o e20; have e485 := N.o e485; have e493 := N.new
  refine wz_take (i := 26) (d := 494) (v := ?_) rfl rfl (by rw [sz]; decide) (wanted_is rfl rfl e485 rfl) (by kernel_rfl) (by kernel_rfl) (by kernel_rfl) (fun c a w h => hQ c _ _ _ w h) (by kernel_rfl) HS.out ?_ ?_
  rotate_left 1
  · (intro w9 hS9 ρ hρ; have r1 := (hρ _).trans e1; simp [go_sem, r1] <;> with_reducible rfl)
  intro a N; have sz := N.s sz; have df := N.d df; have e0 := N.o e0; have e1 := N.o e1; have e20 := N.o e20; have e485 := N.o e485; have e493 := N.o e493; have e494 := N.new
  refine wz_take (i := 27) (d := 495) (v := ?_) rfl rfl (by rw [sz]; decide) (wanted_is rfl rfl e485 rfl) (by kernel_rfl) (by kernel_rfl) (by kernel_rfl) (fun c a w h => hQ c _ _ _ w h) (by kernel_rfl) HS.out ?_ ?_
  rotate_left 1
  · (intro w9 hS9 ρ hρ; have r494 := (hρ _).trans e494; simp [go_sem, r494] <;> with_reducible rfl)
  intro a N; have sz := N.s sz; have df := N.d df; have e0 := N.o e0; have e1 := N.o e1; have e20 := N.o e20; have e485 := N.o e485; have e493 := N.o e493; have e495 := N.new
  refine wz_take (i := 28) (d := 496) (v := ?_) rfl rfl (by rw [sz]; decide) (wanted_is rfl rfl e485 rfl) (by kernel_rfl) (by kernel_rfl) (by kernel_rfl) (fun c a w h => hQ c _ _ _ w h) (by kernel_rfl) HS.out ?_ ?_
  rotate_left 1
  · (intro w9 hS9 ρ hρ; have r495 := (hρ _).trans e495; simp [go_sem, r495] <;> with_reducible rfl)
  intro a N; have sz := N.s sz; have df := N.d df; have e0 := N.o e0; have e1 := N.o e1; have e20 := N.o e20; have e485 := N.o e485; have e493 := N.o e493; have e496 := N.new
  refine wz_take (i := 29) (d := 497) (v := ?_) rfl rfl (by rw [sz]; decide) (wanted_is rfl rfl e485 rfl) (by kernel_rfl) (by kernel_rfl) (by kernel_rfl) (fun c a w h => hQ c _ _ _ w h) (by kernel_rfl) HS.out ?_ ?_
  rotate_left 1
  · (intro w9 hS9 ρ hρ; have c := (HP.out _ hS9).1; have c' := (HP.out _ hS9).2.1; have c0 : w9.cell? ⟨g1, o1 + k * 2, none⟩ = some (.int .i64 f0) := (by simpa using (HP.out _ hS9).2.2.1 0 _ rfl); have d0 : w9.cell? ⟨g2, o2 + k * 2, none⟩ = some (.int .i64 f0) := (by simpa using (HP.out _ hS9).2.2.2 0 _ rfl); have c1 : w9.cell? ⟨g1, o1 + k * 2 + 1, none⟩ = some (.int .i64 f1) := (by simpa using (HP.out _ hS9).2.2.1 1 _ rfl); have d1 : w9.cell? ⟨g2, o2 + k * 2 + 1, none⟩ = some (.int .i64 r1) := (by simpa using (HP.out _ hS9).2.2.2 1 _ rfl); have r496 := (hρ _).trans e496; simp [go_sem, r496, c'] <;> with_reducible rfl)
  intro a N; have sz := N.s sz; have df := N.d df; have e0 := N.o e0; have e1 := N.o e1; have e20 := N.o e20; have e485 := N.o e485; have e493 := N.o e493; have e497 := N.new
  refine wz_take (i := 30) (d := 498) (v := ?_) rfl rfl (by rw [sz]; decide) (wanted_is rfl rfl e485 rfl) (by kernel_rfl) (by kernel_rfl) (by kernel_rfl) (fun c a w h => hQ c _ _ _ w h) (by kernel_rfl) HS.out ?_ ?_
  rotate_left 1
  · (intro w9 hS9 ρ hρ; have r20 := (hρ _).trans e20; simp [go_sem, r20] <;> with_reducible rfl)
  intro a N; have sz := N.s sz; have df := N.d df; have e0 := N.o e0; have e1 := N.o e1; have e20 := N.o e20; have e485 := N.o e485; have e493 := N.o e493; have e497 := N.o e497; have e498 := N.new
  refine wz_take (i := 31) (d := 499) (v := ?_) rfl rfl (by rw [sz]; decide) (wanted_is rfl rfl e485 rfl) (by kernel_rfl) (by kernel_rfl) (by kernel_rfl) (fun c a w h => hQ c _ _ _ w h) (by kernel_rfl) HS.out ?_ ?_
  rotate_left 1
  · (intro w9 hS9 ρ hρ; have r497 := (hρ _).trans e497; have r498 := (hρ _).trans e498; simp [go_sem, r497, r498, h1] <;> with_reducible rfl)
  intro a N; have sz := N.s sz; have df := N.d df; have e0 := N.o e0; have e1 := N.o e1; have e20 := N.o e20; have e485 := N.o e485; have e493 := N.o e493; have e499 := N.new
  refine wz_take (i := 32) (d := 500) (v := ?_) rfl rfl (by rw [sz]; decide) (wanted_is rfl rfl e485 rfl) (by kernel_rfl) (by kernel_rfl) (by kernel_rfl) (fun c a w h => hQ c _ _ _ w h) (by kernel_rfl) HS.out ?_ ?_
  rotate_left 1
  · (intro w9 hS9 ρ hρ; have r499 := (hρ _).trans e499; simp [go_sem, r499] <;> with_reducible rfl)
  intro a N; have sz := N.s sz; have df := N.d df; have e0 := N.o e0; have e1 := N.o e1; have e20 := N.o e20; have e485 := N.o e485; have e493 := N.o e493; have e500 := N.new
  refine wz_take (i := 33) (d := 501) (v := ?_) rfl rfl (by rw [sz]; decide) (wanted_is rfl rfl e485 rfl) (by kernel_rfl) (by kernel_rfl) (by kernel_rfl) (fun c a w h => hQ c _ _ _ w h) (by kernel_rfl) HS.out ?_ ?_
  rotate_left 1
  · (intro w9 hS9 ρ hρ; have c := (HP.out _ hS9).1; have c' := (HP.out _ hS9).2.1; have c0 : w9.cell? ⟨g1, o1 + k * 2, none⟩ = some (.int .i64 f0) := (by simpa using (HP.out _ hS9).2.2.1 0 _ rfl); have d0 : w9.cell? ⟨g2, o2 + k * 2, none⟩ = some (.int .i64 f0) := (by simpa using (HP.out _ hS9).2.2.2 0 _ rfl); have c1 : w9.cell? ⟨g1, o1 + k * 2 + 1, none⟩ = some (.int .i64 f1) := (by simpa using (HP.out _ hS9).2.2.1 1 _ rfl); have d1 : w9.cell? ⟨g2, o2 + k * 2 + 1, none⟩ = some (.int .i64 r1) := (by simpa using (HP.out _ hS9).2.2.2 1 _ rfl); have r500 := (hρ _).trans e500; simp [go_sem, r500, d1] <;> with_reducible rfl)
  intro a N; have sz := N.s sz; have df := N.d df; have e0 := N.o e0; have e1 := N.o e1; have e20 := N.o e20; have e485 := N.o e485; have e493 := N.o e493; have e501 := N.new
  by_cases hf1 : f1 = r1
  rotate_left 1
  · have hq : (f1 != r1) = true := by simpa using hf1
    refine wz_take (i := 34) (d := 502) (v := ?_) rfl rfl (by rw [sz]; decide) (wanted_is rfl rfl e485 rfl) (by kernel_rfl) (by kernel_rfl) (by kernel_rfl) (fun c a w h => hQ c _ _ _ w h) (by kernel_rfl) HS.out ?_ ?_
    rotate_left 1
    · (intro w9 hS9 ρ hρ; have r493 := (hρ _).trans e493; have r501 := (hρ _).trans e501; simp [go_sem, r493, r501, hq] <;> with_reducible rfl)
    intro a N; have sz := N.s sz; have df := N.d df; have e0 := N.o e0; have e1 := N.o e1; have e20 := N.o e20; have e485 := N.o e485; have e502 := N.new
    refine wz_take (i := 35) (d := 503) (v := ?_) rfl rfl (by rw [sz]; decide) (wanted_none rfl _) (by kernel_rfl) (by kernel_rfl) (by kernel_rfl) (fun c a w h => hQ c _ _ _ w h) (by kernel_rfl) HS.out ?_ ?_
    rotate_left 1
    · (intro w9 hS9 ρ hρ; have rc : ∀ v, ρ (.const v) = v := fun v => hρ _; have r485 := (hρ _).trans e485; have r502 := (hρ _).trans e502; simp [go_sem, rc, r485, r502] <;> with_reducible rfl)
    intro a N; have sz := N.s sz; have df := N.d df; have e0 := N.o e0; have e1 := N.o e1; have e20 := N.o e20; have e503 := N.new
    refine wpAnyZ_done (by kernel_rfl) ?_ _; exact h _ _ true ⟨sz, df, e0, e1⟩ e20 e503 ⟨fun h => (by cases h), fun h => absurd (congrArg (fun z => z.2) h) hf1⟩ ((Keep.refl _ w).drew)
  subst hf1
  refine wz_take (i := 34) (d := 502) (v := ?_) rfl rfl (by rw [sz]; decide) (wanted_is rfl rfl e485 rfl) (by kernel_rfl) (by kernel_rfl) (by kernel_rfl) (fun c a w h => hQ c _ _ _ w h) (by kernel_rfl) HS.out ?_ ?_
  rotate_left 1
  · (intro w9 hS9 ρ hρ; have r493 := (hρ _).trans e493; have r501 := (hρ _).trans e501; simp [go_sem, r493, r501] <;> with_reducible rfl)
  intro a N; have sz := N.s sz; have df := N.d df; have e0 := N.o e0; have e1 := N.o e1; have e20 := N.o e20; have e485 := N.o e485; have e502 := N.new
  refine wz_take (i := 35) (d := 503) (v := ?_) rfl rfl (by rw [sz]; decide) (wanted_none rfl _) (by kernel_rfl) (by kernel_rfl) (by kernel_rfl) (fun c a w h => hQ c _ _ _ w h) (by kernel_rfl) HS.out ?_ ?_
  rotate_left 1
  · (intro w9 hS9 ρ hρ; have rc : ∀ v, ρ (.const v) = v := fun v => hρ _; have r485 := (hρ _).trans e485; have r502 := (hρ _).trans e502; simp [go_sem, rc, r485, r502] <;> with_reducible rfl)
  intro a N; have sz := N.s sz; have df := N.d df; have e0 := N.o e0; have e1 := N.o e1; have e20 := N.o e20; have e503 := N.new
  refine wpAnyZ_done (by kernel_rfl) ?_ _; exact h _ _ false ⟨sz, df, e0, e1⟩ e20 e503 ⟨fun _ => rfl, fun _ => rfl⟩ ((Keep.refl _ w).drew)

theorem reI_loop {g o g' o' n d1 d2 : Nat} {w0 : World} {b1 b2 : Option Addr} {xs ys : List (Int × Int)} {Pb Qb : Nat → Prop} {Q : Exit → Act → World → Prop} (hQ : PanicOnly Q) (hX : LAt eTill Pb w0 (.slice b1 n d1) xs) (hY : LAt eTill Qb w0 (.slice b2 n d2) ys) (hn : n = xs.length) (hm : n = ys.length)
    (HP : Hid (∀ w', Keep (fun _ => False) w0 w' → w'.cell? ⟨g, o + 8, none⟩ = some (.slice b1 n d1) ∧ w'.cell? ⟨g', o' + 8, none⟩ = some (.slice b2 n d2)))
    (hret : ∀ a w, FrE (.pointer (some ⟨g, o, none⟩)) (.pointer (some ⟨g', o', none⟩)) a → a.eval (.tmp 4) = .bool false → Keep (fun _ => False) w0 w → xs ≠ ys → Q .ret a w)
    (hdone : ∀ a w, FrE (.pointer (some ⟨g, o, none⟩)) (.pointer (some ⟨g', o', none⟩)) a → Keep (fun _ => False) w0 w → xs = ys → Q .normal a w)
    {a : Act} {w : World} (ha : FrE (.pointer (some ⟨g, o, none⟩)) (.pointer (some ⟨g', o', none⟩)) a) (hi : a.eval (.tmp 20) = .int .i64 0) (hk : Keep (fun _ => False) w0 w) :
    (Code.block 10 (Code.loop (((rgEq 36).seq (Code.cond (.tmp 465) .skip (.exit 10))).seq ((Code.block 11 ((rgEq 38).seq (Code.cond (.tmp 503) ((rgEq 39).seq .ret) .skip))).seq (rgEq 37))))).wp Try.prog Q a w := by
  have hcap : (n : Int) ≤ 9223372036854775807 := by obtain ⟨_, _, e, _, h9, _⟩ := hX; simp only [Value.slice.injEq] at e; obtain ⟨_, h8, _⟩ := e; have := ‹_ ≤ maxLen›; unfold maxLen at *; omega
  refine eqLoop (i := 20) (c1 := 465) (c2 := 503) (RR := rgEq 39) (by rw [← hn, ← hm]) hQ (fun a w k Q ha hi hk h => reI_cond (n := n) ha hi (HP.out _ hk).1 (fun a' ha' hi' hc' => h a' ha' hi' (by rw [hc', hn]))) ?_ (fun a w Q ha h => reI_ret ha h) (fun a w k Q ha hi hlt h => reI_post ha hi (by omega) h) hret hdone ha hi hk
  intro a w k x y Q hQ ha hi hk hx hy h
  have hkn : k < n := by have := (List.getElem?_eq_some_iff.1 hx).1; omega
  obtain ⟨g1, o1, cs1, rfl, hg1, _, hH1, hr1⟩ := (hX.keep hk (fun _ _ _ h => h)).get k x hx
  obtain ⟨g2, o2, cs2, rfl, hg2, _, hH2, hr2⟩ := (hY.keep hk (fun _ _ _ h => h)).get k y hy
  obtain ⟨f0, f1⟩ := x
  obtain ⟨r0, r1⟩ := y
  have hcs1 : cs1 = [.int .i64 f0, .int .i64 f1] := hH1
  have hcs2 : cs2 = [.int .i64 r0, .int .i64 r1] := hH2
  subst hcs1 hcs2
  have HPP : Hid (∀ w', Keep (fun _ => False) w w' → w'.cell? ⟨g, o + 8, none⟩ = some (.slice (some ⟨g1, o1, none⟩) n d1) ∧ w'.cell? ⟨g', o' + 8, none⟩ = some (.slice (some ⟨g2, o2, none⟩) n d2) ∧ w'.rangeAt g1 (o1 + k * 2) _ ∧ w'.rangeAt g2 (o2 + k * 2) _) := Lib.hid (fun w' kk => ⟨(HP.out _ (hk.trans kk (fun _ h => h.elim))).1, (HP.out _ (hk.trans kk (fun _ h => h.elim))).2, rangeAt_keep hr1 kk hg1 (fun h => h), rangeAt_keep hr2 kk hg2 (fun h => h)⟩)
  refine wp_seq (reI_cmp (n := n) (fun c a d v w h => hQ c a d v w h) ha hi hkn HPP (fun a2 w2 b ha2 hi2 hb2 hiff k2 => ?_))
  exact h a2 w2 b ha2 hi2 hb2 hiff (hk.trans k2 (fun _ h => h.elim))

end Go.Proofs.Ytpefkellcigpkaa.Cd
