/- codec: the reference's comparison: its loop over Things. (made by tools/genre2.py) -/
import Derived.Test.YtpefkellcigpkaaCdFr
import Derived.Test.YtpefkellcigpkaaCdEqI
import Derived.Test.YtpefkellcigpkaaCdLs
namespace Go.Proofs.Ytpefkellcigpkaa.Cd
open Go.RowKit Go.Deep Go.Proofs.Ytpefkellcigpkaa
set_option maxRecDepth 100000

theorem reT_cond {g o g' o' : Nat} {a : Act} {w : World} {Q : Exit → Act → World → Prop} {k n d : Nat} {b : Option Addr} (ha : FrE (.pointer (some ⟨g, o, none⟩)) (.pointer (some ⟨g', o', none⟩)) a) (e8 : a.eval (.tmp 8) = .int .i64 (k : Int)) (c : w.cell? ⟨g, o + 4, none⟩ = some (.slice b n d))
    (h : ∀ a', FrE (.pointer (some ⟨g, o, none⟩)) (.pointer (some ⟨g', o', none⟩)) a' → a'.eval (.tmp 8) = .int .i64 (k : Int) → a'.eval (.tmp 240) = .bool (decide (k < n)) → Q .normal a' w) : (rgEq 12).wp Try.prog Q a w := by
  obtain ⟨sz, df, e0, e1⟩ := ha
  conv => arg 2; whnf
  refine wp_region_list ?_
  dsimp only
  refine tn (d := 234) (v := ?_) sz ?_ ?_
  rotate_left 1
  · (intro ρ hρ; have r8 := (hρ _).trans e8; simp [go_sem, r8] <;> with_reducible rfl)
  intro a N; have sz := N.s sz; have df := N.d df; have e0 := N.o e0; have e1 := N.o e1; have e8 := N.o e8; have e234 := N.new
  refine tn (d := 235) (v := ?_) sz ?_ ?_
  rotate_left 1
  · (intro ρ hρ; have r0 := (hρ _).trans e0; simp [go_sem, r0] <;> with_reducible rfl)
  intro a N; have sz := N.s sz; have df := N.d df; have e0 := N.o e0; have e1 := N.o e1; have e8 := N.o e8; have e234 := N.o e234; have e235 := N.new
  refine tn (d := 236) (v := ?_) sz ?_ ?_
  rotate_left 1
  · (intro ρ hρ; have r235 := (hρ _).trans e235; simp [go_sem, r235] <;> with_reducible rfl)
  intro a N; have sz := N.s sz; have df := N.d df; have e0 := N.o e0; have e1 := N.o e1; have e8 := N.o e8; have e234 := N.o e234; have e236 := N.new
  refine tn (d := 237) (v := ?_) sz ?_ ?_
  rotate_left 1
  · (intro ρ hρ; have r236 := (hρ _).trans e236; simp [go_sem, r236] <;> with_reducible rfl)
  intro a N; have sz := N.s sz; have df := N.d df; have e0 := N.o e0; have e1 := N.o e1; have e8 := N.o e8; have e234 := N.o e234; have e237 := N.new
  refine tn (d := 238) (v := ?_) sz ?_ ?_
  rotate_left 1
  · (intro ρ hρ; have r237 := (hρ _).trans e237; simp [go_sem, r237, c] <;> with_reducible rfl)
  intro a N; have sz := N.s sz; have df := N.d df; have e0 := N.o e0; have e1 := N.o e1; have e8 := N.o e8; have e234 := N.o e234; have e238 := N.new
  refine tn (d := 239) (v := ?_) sz ?_ ?_
  rotate_left 1
  · (intro ρ hρ; have r238 := (hρ _).trans e238; simp [go_sem, r238] <;> with_reducible rfl)
  intro a N; have sz := N.s sz; have df := N.d df; have e0 := N.o e0; have e1 := N.o e1; have e8 := N.o e8; have e234 := N.o e234; have e239 := N.new
  refine tn (d := 240) (v := ?_) sz ?_ ?_
  rotate_left 1
  · (intro ρ hρ; have r234 := (hρ _).trans e234; have r239 := (hρ _).trans e239; simp [go_sem, r234, r239] <;> with_reducible rfl)
  intro a N; have sz := N.s sz; have df := N.d df; have e0 := N.o e0; have e1 := N.o e1; have e8 := N.o e8; have e240 := N.new
  exact h _ ⟨sz, df, e0, e1⟩ e8 e240

theorem reT_post {g o g' o' : Nat} {a : Act} {w : World} {Q : Exit → Act → World → Prop} {k : Nat} (ha : FrE (.pointer (some ⟨g, o, none⟩)) (.pointer (some ⟨g', o', none⟩)) a) (e8 : a.eval (.tmp 8) = .int .i64 (k : Int)) (hk : (k : Int) + 1 ≤ 9223372036854775807)
    (h : ∀ a', FrE (.pointer (some ⟨g, o, none⟩)) (.pointer (some ⟨g', o', none⟩)) a' → a'.eval (.tmp 8) = .int .i64 ((k + 1 : Nat) : Int) → Q .normal a' w) : (rgEq 13).wp Try.prog Q a w := by
  obtain ⟨sz, df, e0, e1⟩ := ha
  have hwr : IntKind.i64.wrap ((k : Int) + 1) = ((k + 1 : Nat) : Int) := i64_nat (k + 1) (by omega)
  conv => arg 2; whnf
  refine wp_region_list ?_
  dsimp only
  refine tn (d := 241) (v := ?_) sz ?_ ?_
  rotate_left 1
  · (intro ρ hρ; have r8 := (hρ _).trans e8; simp [go_sem, r8] <;> with_reducible rfl)
  intro a N; have sz := N.s sz; have df := N.d df; have e0 := N.o e0; have e1 := N.o e1; have e8 := N.o e8; have e241 := N.new
  refine tn (d := 242) (v := ?_) sz ?_ ?_
  rotate_left 1
  · (intro ρ hρ; have rc : ∀ v, ρ (.const v) = v := fun v => hρ _; have r241 := (hρ _).trans e241; simp [go_sem, rc, r241, hwr] <;> with_reducible rfl)
  intro a N; have sz := N.s sz; have df := N.d df; have e0 := N.o e0; have e1 := N.o e1; have e8 := N.o e8; have e242 := N.new
  refine tn (d := 8) (v := ?_) sz ?_ ?_
  rotate_left 1
  · (intro ρ hρ; have r242 := (hρ _).trans e242; simp [go_sem, r242] <;> with_reducible rfl)
  intro a N; have sz := N.s sz; have df := N.d df; have e0 := N.o e0; have e1 := N.o e1; have e8 := N.new
  exact h _ ⟨sz, df, e0, e1⟩ e8

theorem reT_ret {g o g' o' : Nat} {a : Act} {w : World} {Q : Exit → Act → World → Prop} (ha : FrE (.pointer (some ⟨g, o, none⟩)) (.pointer (some ⟨g', o', none⟩)) a) (h : ∀ a', FrE (.pointer (some ⟨g, o, none⟩)) (.pointer (some ⟨g', o', none⟩)) a' → a'.eval (.tmp 4) = .bool false → Q .normal a' w) : (rgEq 16).wp Try.prog Q a w := by
  obtain ⟨sz, df, e0, e1⟩ := ha
  conv => arg 2; whnf
  refine wp_region_list ?_
  dsimp only
  refine tn (d := 4) (v := ?_) sz ?_ ?_
  rotate_left 1
  · (intro ρ hρ; have rc : ∀ v, ρ (.const v) = v := fun v => hρ _; simp [go_sem, rc] <;> with_reducible rfl)
  intro a N; have sz := N.s sz; have df := N.d df; have e0 := N.o e0; have e1 := N.o e1; have e4 := N.new
  exact h _ ⟨sz, df, e0, e1⟩ e4

theorem reT_asg {g o g' o' : Nat} {a : Act} {w : World} {Q : Exit → Act → World → Prop} {k n d1 d2 g1 o1 g2 o2 : Nat} {f0 : Int} {f1 : Int} {f2 : Int} {f3 : Int} {f4 : ByteArray} {r0 : Int} {r1 : Int} {r2 : Int} {r3 : Int} {r4 : ByteArray} (hQ : PanicOnly Q) (ha : FrE (.pointer (some ⟨g, o, none⟩)) (.pointer (some ⟨g', o', none⟩)) a) (e8 : a.eval (.tmp 8) = .int .i64 (k : Int)) (h1 : k < n) (h2 : k < n)
    (HP : Hid (∀ w', Keep (fun _ => False) w w' → w'.cell? ⟨g, o + 4, none⟩ = some (.slice (some ⟨g1, o1, none⟩) n d1) ∧ w'.cell? ⟨g', o' + 4, none⟩ = some (.slice (some ⟨g2, o2, none⟩) n d2) ∧ w'.rangeAt g1 (o1 + k * 5) [.int .i64 f0, .int .i64 f1, .int .i64 f2, .int .i64 f3, .string f4] ∧ w'.rangeAt g2 (o2 + k * 5) [.int .i64 r0, .int .i64 r1, .int .i64 r2, .int .i64 r3, .string r4]))
    (h : ∀ a' w' h1 h2, FrE (.pointer (some ⟨g, o, none⟩)) (.pointer (some ⟨g', o', none⟩)) a' → a'.eval (.tmp 8) = .int .i64 (k : Int) → a'.eval (.tmp 9) = .pointer (some ⟨h1, 0, none⟩) → a'.eval (.tmp 10) = .pointer (some ⟨h2, 0, none⟩) → w'.heap[h1]? = some (.cells #[.int .i64 f0, .int .i64 f1, .int .i64 f2, .int .i64 f3, .string f4] 61 (0, 0)) → w'.heap[h2]? = some (.cells #[.int .i64 r0, .int .i64 r1, .int .i64 r2, .int .i64 r3, .string r4] 61 (0, 0)) → Keep (fun _ => False) w w' → Q .normal a' w') : (rgEq 14).wp Try.prog Q a w := by
  obtain ⟨sz, df, e0, e1⟩ := ha
  obtain ⟨Z, HZ, hZ⟩ := zThing
  conv => arg 2; whnf
  refine wp_region_z (fun w' => Keep (fun _ => False) w w') [] (by kernel_rfl) ?_
  have HS : Hid ((fun w' => Keep (fun _ => False) w w') w.drew) := Lib.hid ((Keep.refl (fun _ => False) w).drew)
  refine wz_take (i := 0) (d := 243) (v := ?_) rfl rfl (by rw [sz]; decide) (wanted_none rfl _) (by kernel_rfl) (by kernel_rfl) (by kernel_rfl) (fun c a w h => hQ c _ _ _ w h) (by kernel_rfl) HS.out ?_ ?_
  rotate_left 1
  · (intro w9 hS9 ρ hρ; have r0 := (hρ _).trans e0; simp [go_sem, r0] <;> with_reducible rfl)
  intro a N; have sz := N.s sz; have df := N.d df; have e0 := N.o e0; have e1 := N.o e1; have e8 := N.o e8; have e243 := N.new
  refine wz_take (i := 1) (d := 244) (v := ?_) rfl rfl (by rw [sz]; decide) (wanted_none rfl _) (by kernel_rfl) (by kernel_rfl) (by kernel_rfl) (fun c a w h => hQ c _ _ _ w h) (by kernel_rfl) HS.out ?_ ?_
  rotate_left 1
  · (intro w9 hS9 ρ hρ; have r243 := (hρ _).trans e243; simp [go_sem, r243] <;> with_reducible rfl)
  intro a N; have sz := N.s sz; have df := N.d df; have e0 := N.o e0; have e1 := N.o e1; have e8 := N.o e8; have e244 := N.new
  refine wz_take (i := 2) (d := 245) (v := ?_) rfl rfl (by rw [sz]; decide) (wanted_none rfl _) (by kernel_rfl) (by kernel_rfl) (by kernel_rfl) (fun c a w h => hQ c _ _ _ w h) (by kernel_rfl) HS.out ?_ ?_
  rotate_left 1
  · (intro w9 hS9 ρ hρ; have r244 := (hρ _).trans e244; simp [go_sem, r244] <;> with_reducible rfl)
  intro a N; have sz := N.s sz; have df := N.d df; have e0 := N.o e0; have e1 := N.o e1; have e8 := N.o e8; have e245 := N.new
  refine wz_take (i := 3) (d := 246) (v := ?_) rfl rfl (by rw [sz]; decide) (wanted_none rfl _) (by kernel_rfl) (by kernel_rfl) (by kernel_rfl) (fun c a w h => hQ c _ _ _ w h) (by kernel_rfl) HS.out ?_ ?_
  rotate_left 1
  · (intro w9 hS9 ρ hρ; have c := (HP.out _ hS9).1; have r245 := (hρ _).trans e245; simp [go_sem, r245, c] <;> with_reducible rfl)
  intro a N; have sz := N.s sz; have df := N.d df; have e0 := N.o e0; have e1 := N.o e1; have e8 := N.o e8; have e246 := N.new
  refine wz_take (i := 4) (d := 247) (v := ?_) rfl rfl (by rw [sz]; decide) (wanted_none rfl _) (by kernel_rfl) (by kernel_rfl) (by kernel_rfl) (fun c a w h => hQ c _ _ _ w h) (by kernel_rfl) HS.out ?_ ?_
  rotate_left 1
  · (intro w9 hS9 ρ hρ; have r8 := (hρ _).trans e8; simp [go_sem, r8] <;> with_reducible rfl)
  intro a N; have sz := N.s sz; have df := N.d df; have e0 := N.o e0; have e1 := N.o e1; have e8 := N.o e8; have e246 := N.o e246; have e247 := N.new
  refine wz_take (i := 5) (d := 248) (v := ?_) rfl rfl (by rw [sz]; decide) (wanted_none rfl _) (by kernel_rfl) (by kernel_rfl) (by kernel_rfl) (fun c a w h => hQ c _ _ _ w h) (by kernel_rfl) HS.out ?_ ?_
  rotate_left 1
  · (intro w9 hS9 ρ hρ; have r246 := (hρ _).trans e246; have r247 := (hρ _).trans e247; simp [go_sem, r246, r247, h1] <;> with_reducible rfl)
  intro a N; have sz := N.s sz; have df := N.d df; have e0 := N.o e0; have e1 := N.o e1; have e8 := N.o e8; have e248 := N.new
  refine wz_take (i := 6) (d := 249) (v := ?_) rfl rfl (by rw [sz]; decide) (wanted_none rfl _) (by kernel_rfl) (by kernel_rfl) (by kernel_rfl) (fun c a w h => hQ c _ _ _ w h) (by kernel_rfl) HS.out ?_ ?_
  rotate_left 1
  · (intro w9 hS9 ρ hρ; have hc := (HP.out _ hS9).2.2.1; have c0 : w9.cell? ⟨g1, o1 + k * 5, none⟩ = some (.int .i64 f0) := (by simpa using hc 0 _ rfl); have c1 : w9.cell? ⟨g1, o1 + k * 5 + 1, none⟩ = some (.int .i64 f1) := (by simpa using hc 1 _ rfl); have c2 : w9.cell? ⟨g1, o1 + k * 5 + 2, none⟩ = some (.int .i64 f2) := (by simpa using hc 2 _ rfl); have c3 : w9.cell? ⟨g1, o1 + k * 5 + 3, none⟩ = some (.int .i64 f3) := (by simpa using hc 3 _ rfl); have c4 : w9.cell? ⟨g1, o1 + k * 5 + 4, none⟩ = some (.string f4) := (by simpa using hc 4 _ rfl); have r248 := (hρ _).trans e248; simp [go_sem, r248, c0, c1, c2, c3, c4] <;> with_reducible rfl)
  intro a N; have sz := N.s sz; have df := N.d df; have e0 := N.o e0; have e1 := N.o e1; have e8 := N.o e8; have e249 := N.new
  refine wz_take (i := 7) (d := 250) (v := ?_) rfl rfl (by rw [sz]; decide) (wanted_none rfl _) (by kernel_rfl) (by kernel_rfl) (by kernel_rfl) (fun c a w h => hQ c _ _ _ w h) (by kernel_rfl) HS.out ?_ ?_
  rotate_left 1
  · (intro w9 hS9 ρ hρ; have r1 := (hρ _).trans e1; simp [go_sem, r1] <;> with_reducible rfl)
  intro a N; have sz := N.s sz; have df := N.d df; have e0 := N.o e0; have e1 := N.o e1; have e8 := N.o e8; have e249 := N.o e249; have e250 := N.new
  refine wz_take (i := 8) (d := 251) (v := ?_) rfl rfl (by rw [sz]; decide) (wanted_none rfl _) (by kernel_rfl) (by kernel_rfl) (by kernel_rfl) (fun c a w h => hQ c _ _ _ w h) (by kernel_rfl) HS.out ?_ ?_
  rotate_left 1
  · (intro w9 hS9 ρ hρ; have r250 := (hρ _).trans e250; simp [go_sem, r250] <;> with_reducible rfl)
  intro a N; have sz := N.s sz; have df := N.d df; have e0 := N.o e0; have e1 := N.o e1; have e8 := N.o e8; have e249 := N.o e249; have e251 := N.new
  refine wz_take (i := 9) (d := 252) (v := ?_) rfl rfl (by rw [sz]; decide) (wanted_none rfl _) (by kernel_rfl) (by kernel_rfl) (by kernel_rfl) (fun c a w h => hQ c _ _ _ w h) (by kernel_rfl) HS.out ?_ ?_
  rotate_left 1
  · (intro w9 hS9 ρ hρ; have r251 := (hρ _).trans e251; simp [go_sem, r251] <;> with_reducible rfl)
  intro a N; have sz := N.s sz; have df := N.d df; have e0 := N.o e0; have e1 := N.o e1; have e8 := N.o e8; have e249 := N.o e249; have e252 := N.new
  refine wz_take (i := 10) (d := 253) (v := ?_) rfl rfl (by rw [sz]; decide) (wanted_none rfl _) (by kernel_rfl) (by kernel_rfl) (by kernel_rfl) (fun c a w h => hQ c _ _ _ w h) (by kernel_rfl) HS.out ?_ ?_
  rotate_left 1
  · (intro w9 hS9 ρ hρ; have c := (HP.out _ hS9).2.1; have r252 := (hρ _).trans e252; simp [go_sem, r252, c] <;> with_reducible rfl)
  intro a N; have sz := N.s sz; have df := N.d df; have e0 := N.o e0; have e1 := N.o e1; have e8 := N.o e8; have e249 := N.o e249; have e253 := N.new
  refine wz_take (i := 11) (d := 254) (v := ?_) rfl rfl (by rw [sz]; decide) (wanted_none rfl _) (by kernel_rfl) (by kernel_rfl) (by kernel_rfl) (fun c a w h => hQ c _ _ _ w h) (by kernel_rfl) HS.out ?_ ?_
  rotate_left 1
  · (intro w9 hS9 ρ hρ; have r8 := (hρ _).trans e8; simp [go_sem, r8] <;> with_reducible rfl)
  intro a N; have sz := N.s sz; have df := N.d df; have e0 := N.o e0; have e1 := N.o e1; have e8 := N.o e8; have e249 := N.o e249; have e253 := N.o e253; have e254 := N.new
  refine wz_take (i := 12) (d := 255) (v := ?_) rfl rfl (by rw [sz]; decide) (wanted_none rfl _) (by kernel_rfl) (by kernel_rfl) (by kernel_rfl) (fun c a w h => hQ c _ _ _ w h) (by kernel_rfl) HS.out ?_ ?_
  rotate_left 1
  · (intro w9 hS9 ρ hρ; have r253 := (hρ _).trans e253; have r254 := (hρ _).trans e254; simp [go_sem, r253, r254, h2] <;> with_reducible rfl)
  intro a N; have sz := N.s sz; have df := N.d df; have e0 := N.o e0; have e1 := N.o e1; have e8 := N.o e8; have e249 := N.o e249; have e255 := N.new
  refine wz_take (i := 13) (d := 256) (v := ?_) rfl rfl (by rw [sz]; decide) (wanted_none rfl _) (by kernel_rfl) (by kernel_rfl) (by kernel_rfl) (fun c a w h => hQ c _ _ _ w h) (by kernel_rfl) HS.out ?_ ?_
  rotate_left 1
  · (intro w9 hS9 ρ hρ; have hc := (HP.out _ hS9).2.2.2; have c0 : w9.cell? ⟨g2, o2 + k * 5, none⟩ = some (.int .i64 r0) := (by simpa using hc 0 _ rfl); have c1 : w9.cell? ⟨g2, o2 + k * 5 + 1, none⟩ = some (.int .i64 r1) := (by simpa using hc 1 _ rfl); have c2 : w9.cell? ⟨g2, o2 + k * 5 + 2, none⟩ = some (.int .i64 r2) := (by simpa using hc 2 _ rfl); have c3 : w9.cell? ⟨g2, o2 + k * 5 + 3, none⟩ = some (.int .i64 r3) := (by simpa using hc 3 _ rfl); have c4 : w9.cell? ⟨g2, o2 + k * 5 + 4, none⟩ = some (.string r4) := (by simpa using hc 4 _ rfl); have r255 := (hρ _).trans e255; simp [go_sem, r255, c0, c1, c2, c3, c4] <;> with_reducible rfl)
  intro a N; have sz := N.s sz; have df := N.d df; have e0 := N.o e0; have e1 := N.o e1; have e8 := N.o e8; have e249 := N.o e249; have e256 := N.new
  refine wpAnyZ_vars (i := 14) (j := 15) (m := 16) (n := 17) (d1 := 9) (d2 := 10) (t := 61) (Z := Z) (C1 := #[.int .i64 f0, .int .i64 f1, .int .i64 f2, .int .i64 f3, .string f4]) (C2 := #[.int .i64 r0, .int .i64 r1, .int .i64 r2, .int .i64 r3, .string r4]) (x1 := .tmp 249) (x2 := .tmp 256) rfl rfl rfl rfl rfl rfl rfl rfl rfl rfl rfl rfl rfl rfl rfl rfl (by decide) (by kernel_rfl) (by kernel_rfl) (by kernel_rfl) (by kernel_rfl) (by kernel_rfl) (by kernel_rfl) (by decide) HZ.out (by rw [hZ]; kernel_rfl) hZ hZ (by simp [Value.oneCell']) (by simp [Value.oneCell']) (by rw [sz]; decide) (by rw [sz]; decide)
    (fun p q => by rw [eval_put_ne (by decide), eval_put_ne (by decide)]; exact e249) (fun p q => by rw [eval_put_ne (by decide), eval_put_ne (by decide)]; exact e256) (fun w' kk => HS.out.trans kk (fun _ h => h.elim)) ?_
  intro h1 h2 w9 t1 t2 kk
  have N1 := Nxt.put (a := a) (v := .pointer (some ⟨h1, 0, none⟩)) (show 9 < a.tmps.size by rw [sz]; decide)
  have N2 := Nxt.put (a := a.put (some 9) (.pointer (some ⟨h1, 0, none⟩))) (v := .pointer (some ⟨h2, 0, none⟩)) (show 10 < (a.put (some 9) _).tmps.size by rw [size_put, sz]; decide)
  exact h _ w9 h1 h2 ⟨N2.size.trans (N1.size.trans sz), N2.defers.trans (N1.defers.trans df), (N2.old 0 (by decide)).trans ((N1.old 0 (by decide)).trans e0), (N2.old 1 (by decide)).trans ((N1.old 1 (by decide)).trans e1)⟩
    ((N2.old 8 (by decide)).trans ((N1.old 8 (by decide)).trans e8)) ((N2.old 9 (by decide)).trans N1.new) N2.new t1 t2 (HS.out.trans kk (fun _ h => h.elim))

set_option maxHeartbeats 4000000 in
theorem reT_cmp {g o g' o' : Nat} {a : Act} {w : World} {Q : Exit → Act → World → Prop} {k h1 h2 : Nat} {f0 : Int} {f1 : Int} {f2 : Int} {f3 : Int} {f4 : ByteArray} {r0 : Int} {r1 : Int} {r2 : Int} {r3 : Int} {r4 : ByteArray} (ha : FrE (.pointer (some ⟨g, o, none⟩)) (.pointer (some ⟨g', o', none⟩)) a) (e8 : a.eval (.tmp 8) = .int .i64 (k : Int)) (e9 : a.eval (.tmp 9) = .pointer (some ⟨h1, 0, none⟩)) (e10 : a.eval (.tmp 10) = .pointer (some ⟨h2, 0, none⟩)) (t1 : w.heap[h1]? = some (.cells #[.int .i64 f0, .int .i64 f1, .int .i64 f2, .int .i64 f3, .string f4] 61 (0, 0))) (t2 : w.heap[h2]? = some (.cells #[.int .i64 r0, .int .i64 r1, .int .i64 r2, .int .i64 r3, .string r4] 61 (0, 0)))
    (h : ∀ a' w' b, FrE (.pointer (some ⟨g, o, none⟩)) (.pointer (some ⟨g', o', none⟩)) a' → a'.eval (.tmp 8) = .int .i64 (k : Int) → a'.eval (.tmp 289) = .bool b → (b = false ↔ (((f0, f1, f2, f3, f4) : Int × Int × Int × Int × ByteArray) = (r0, r1, r2, r3, r4))) → Keep (fun _ => False) w w' → Q .normal a' w') : (rgEq 15).wp Try.prog Q a w := by
  obtain ⟨sz, df, e0, e1⟩ := ha
  have c0 : _ = some (Value.int .i64 f0) := (cell_of_row _ _ 0 _ _ _ t1).trans rfl
  have d0 : _ = some (Value.int .i64 r0) := (cell_of_row _ _ 0 _ _ _ t2).trans rfl
  have c1 : _ = some (Value.int .i64 f1) := (cell_of_row _ _ 1 _ _ _ t1).trans rfl
  have d1 : _ = some (Value.int .i64 r1) := (cell_of_row _ _ 1 _ _ _ t2).trans rfl
  have c2 : _ = some (Value.int .i64 f2) := (cell_of_row _ _ 2 _ _ _ t1).trans rfl
  have d2 : _ = some (Value.int .i64 r2) := (cell_of_row _ _ 2 _ _ _ t2).trans rfl
  have c3 : _ = some (Value.int .i64 f3) := (cell_of_row _ _ 3 _ _ _ t1).trans rfl
  have d3 : _ = some (Value.int .i64 r3) := (cell_of_row _ _ 3 _ _ _ t2).trans rfl
  have c4 : _ = some (Value.string f4) := (cell_of_row _ _ 4 _ _ _ t1).trans rfl
  have d4 : _ = some (Value.string r4) := (cell_of_row _ _ 4 _ _ _ t2).trans rfl
  clear t1 t2
  conv => arg 2; whnf
  refine wp_region_list ?_
  dsimp only
  refine tn (d := 257) (v := ?_) sz ?_ ?_
  rotate_left 1
  · (intro ρ hρ; have r9 := (hρ _).trans e9; simp [go_sem, r9] <;> with_reducible rfl)
  intro a N; have sz := N.s sz; have df := N.d df; have e0 := N.o e0; have e1 := N.o e1; have e8 := N.o e8; have e9 := N.o e9; have e10 := N.o e10; have e257 := N.new
  refine tn (d := 258) (v := ?_) sz ?_ ?_
  rotate_left 1
  · (intro ρ hρ; have r257 := (hρ _).trans e257; simp [go_sem, r257, c0] <;> with_reducible rfl)
  intro a N; have sz := N.s sz; have df := N.d df; have e0 := N.o e0; have e1 := N.o e1; have e8 := N.o e8; have e9 := N.o e9; have e10 := N.o e10; have e258 := N.new
  refine tn (d := 259) (v := ?_) sz ?_ ?_
  rotate_left 1
  · (intro ρ hρ; have r10 := (hρ _).trans e10; simp [go_sem, r10] <;> with_reducible rfl)
  intro a N; have sz := N.s sz; have df := N.d df; have e0 := N.o e0; have e1 := N.o e1; have e8 := N.o e8; have e9 := N.o e9; have e10 := N.o e10; have e258 := N.o e258; have e259 := N.new
  refine tn (d := 260) (v := ?_) sz ?_ ?_
  rotate_left 1
  · (intro ρ hρ; have r259 := (hρ _).trans e259; simp [go_sem, r259, d0] <;> with_reducible rfl)
  intro a N; have sz := N.s sz; have df := N.d df; have e0 := N.o e0; have e1 := N.o e1; have e8 := N.o e8; have e9 := N.o e9; have e10 := N.o e10; have e258 := N.o e258; have e260 := N.new
  by_cases hf0 : f0 = r0
  rotate_left 1
  · have hq : (f0 != r0) = true := by simpa using hf0
    refine tn (d := 261) (v := ?_) sz ?_ ?_
    rotate_left 1
    · (intro ρ hρ; have r258 := (hρ _).trans e258; have r260 := (hρ _).trans e260; simp [go_sem, r258, r260, hq] <;> with_reducible rfl)
    intro a N; have sz := N.s sz; have df := N.d df; have e0 := N.o e0; have e1 := N.o e1; have e8 := N.o e8; have e9 := N.o e9; have e10 := N.o e10; have e261 := N.new
    refine tn (d := 262) (v := ?_) sz ?_ ?_
    rotate_left 1
    · (intro ρ hρ; have r261 := (hρ _).trans e261; simp [go_sem, r261] <;> with_reducible rfl)
    intro a N; have sz := N.s sz; have df := N.d df; have e0 := N.o e0; have e1 := N.o e1; have e8 := N.o e8; have e9 := N.o e9; have e10 := N.o e10; have e262 := N.new
    refine sk (d := 263) sz (wanted_is rfl rfl e262 rfl) ?_
    intro a N; have sz := N.s sz; have df := N.d df; have e0 := N.o e0; have e1 := N.o e1; have e8 := N.o e8; have e9 := N.o e9; have e10 := N.o e10; have e262 := N.o e262; have e263 := N.new
    refine sk (d := 264) sz (wanted_is rfl rfl e262 rfl) ?_
    intro a N; have sz := N.s sz; have df := N.d df; have e0 := N.o e0; have e1 := N.o e1; have e8 := N.o e8; have e9 := N.o e9; have e10 := N.o e10; have e262 := N.o e262; have e264 := N.new
    refine sk (d := 265) sz (wanted_is rfl rfl e262 rfl) ?_
    intro a N; have sz := N.s sz; have df := N.d df; have e0 := N.o e0; have e1 := N.o e1; have e8 := N.o e8; have e9 := N.o e9; have e10 := N.o e10; have e262 := N.o e262; have e264 := N.o e264; have e265 := N.new
    refine sk (d := 266) sz (wanted_is rfl rfl e262 rfl) ?_
    intro a N; have sz := N.s sz; have df := N.d df; have e0 := N.o e0; have e1 := N.o e1; have e8 := N.o e8; have e9 := N.o e9; have e10 := N.o e10; have e262 := N.o e262; have e264 := N.o e264; have e266 := N.new
    refine sk (d := 267) sz (wanted_is rfl rfl e262 rfl) ?_
    intro a N; have sz := N.s sz; have df := N.d df; have e0 := N.o e0; have e1 := N.o e1; have e8 := N.o e8; have e9 := N.o e9; have e10 := N.o e10; have e262 := N.o e262; have e267 := N.new
    refine tn (d := 268) (v := ?_) sz ?_ ?_
    rotate_left 1
    · (intro ρ hρ; have rc : ∀ v, ρ (.const v) = v := fun v => hρ _; have r262 := (hρ _).trans e262; have r267 := (hρ _).trans e267; simp [go_sem, rc, r262, r267] <;> with_reducible rfl)
    intro a N; have sz := N.s sz; have df := N.d df; have e0 := N.o e0; have e1 := N.o e1; have e8 := N.o e8; have e9 := N.o e9; have e10 := N.o e10; have e268 := N.new
    refine tn (d := 269) (v := ?_) sz ?_ ?_
    rotate_left 1
    · (intro ρ hρ; have r268 := (hρ _).trans e268; simp [go_sem, r268] <;> with_reducible rfl)
    intro a N; have sz := N.s sz; have df := N.d df; have e0 := N.o e0; have e1 := N.o e1; have e8 := N.o e8; have e9 := N.o e9; have e10 := N.o e10; have e269 := N.new
    refine sk (d := 270) sz (wanted_is rfl rfl e269 rfl) ?_
    intro a N; have sz := N.s sz; have df := N.d df; have e0 := N.o e0; have e1 := N.o e1; have e8 := N.o e8; have e9 := N.o e9; have e10 := N.o e10; have e269 := N.o e269; have e270 := N.new
    refine sk (d := 271) sz (wanted_is rfl rfl e269 rfl) ?_
    intro a N; have sz := N.s sz; have df := N.d df; have e0 := N.o e0; have e1 := N.o e1; have e8 := N.o e8; have e9 := N.o e9; have e10 := N.o e10; have e269 := N.o e269; have e271 := N.new
    refine sk (d := 272) sz (wanted_is rfl rfl e269 rfl) ?_
    intro a N; have sz := N.s sz; have df := N.d df; have e0 := N.o e0; have e1 := N.o e1; have e8 := N.o e8; have e9 := N.o e9; have e10 := N.o e10; have e269 := N.o e269; have e271 := N.o e271; have e272 := N.new
    refine sk (d := 273) sz (wanted_is rfl rfl e269 rfl) ?_
    intro a N; have sz := N.s sz; have df := N.d df; have e0 := N.o e0; have e1 := N.o e1; have e8 := N.o e8; have e9 := N.o e9; have e10 := N.o e10; have e269 := N.o e269; have e271 := N.o e271; have e273 := N.new
    refine sk (d := 274) sz (wanted_is rfl rfl e269 rfl) ?_
    intro a N; have sz := N.s sz; have df := N.d df; have e0 := N.o e0; have e1 := N.o e1; have e8 := N.o e8; have e9 := N.o e9; have e10 := N.o e10; have e269 := N.o e269; have e274 := N.new
    refine tn (d := 275) (v := ?_) sz ?_ ?_
    rotate_left 1
    · (intro ρ hρ; have rc : ∀ v, ρ (.const v) = v := fun v => hρ _; have r269 := (hρ _).trans e269; have r274 := (hρ _).trans e274; simp [go_sem, rc, r269, r274] <;> with_reducible rfl)
    intro a N; have sz := N.s sz; have df := N.d df; have e0 := N.o e0; have e1 := N.o e1; have e8 := N.o e8; have e9 := N.o e9; have e10 := N.o e10; have e275 := N.new
    refine tn (d := 276) (v := ?_) sz ?_ ?_
    rotate_left 1
    · (intro ρ hρ; have r275 := (hρ _).trans e275; simp [go_sem, r275] <;> with_reducible rfl)
    intro a N; have sz := N.s sz; have df := N.d df; have e0 := N.o e0; have e1 := N.o e1; have e8 := N.o e8; have e9 := N.o e9; have e10 := N.o e10; have e276 := N.new
    refine sk (d := 277) sz (wanted_is rfl rfl e276 rfl) ?_
    intro a N; have sz := N.s sz; have df := N.d df; have e0 := N.o e0; have e1 := N.o e1; have e8 := N.o e8; have e9 := N.o e9; have e10 := N.o e10; have e276 := N.o e276; have e277 := N.new
    refine sk (d := 278) sz (wanted_is rfl rfl e276 rfl) ?_
    intro a N; have sz := N.s sz; have df := N.d df; have e0 := N.o e0; have e1 := N.o e1; have e8 := N.o e8; have e9 := N.o e9; have e10 := N.o e10; have e276 := N.o e276; have e278 := N.new
    refine sk (d := 279) sz (wanted_is rfl rfl e276 rfl) ?_
    intro a N; have sz := N.s sz; have df := N.d df; have e0 := N.o e0; have e1 := N.o e1; have e8 := N.o e8; have e9 := N.o e9; have e10 := N.o e10; have e276 := N.o e276; have e278 := N.o e278; have e279 := N.new
    refine sk (d := 280) sz (wanted_is rfl rfl e276 rfl) ?_
    intro a N; have sz := N.s sz; have df := N.d df; have e0 := N.o e0; have e1 := N.o e1; have e8 := N.o e8; have e9 := N.o e9; have e10 := N.o e10; have e276 := N.o e276; have e278 := N.o e278; have e280 := N.new
    refine sk (d := 281) sz (wanted_is rfl rfl e276 rfl) ?_
    intro a N; have sz := N.s sz; have df := N.d df; have e0 := N.o e0; have e1 := N.o e1; have e8 := N.o e8; have e9 := N.o e9; have e10 := N.o e10; have e276 := N.o e276; have e281 := N.new
    refine tn (d := 282) (v := ?_) sz ?_ ?_
    rotate_left 1
    · (intro ρ hρ; have rc : ∀ v, ρ (.const v) = v := fun v => hρ _; have r276 := (hρ _).trans e276; have r281 := (hρ _).trans e281; simp [go_sem, rc, r276, r281] <;> with_reducible rfl)
    intro a N; have sz := N.s sz; have df := N.d df; have e0 := N.o e0; have e1 := N.o e1; have e8 := N.o e8; have e9 := N.o e9; have e10 := N.o e10; have e282 := N.new
    refine tn (d := 283) (v := ?_) sz ?_ ?_
    rotate_left 1
    · (intro ρ hρ; have r282 := (hρ _).trans e282; simp [go_sem, r282] <;> with_reducible rfl)
    intro a N; have sz := N.s sz; have df := N.d df; have e0 := N.o e0; have e1 := N.o e1; have e8 := N.o e8; have e9 := N.o e9; have e10 := N.o e10; have e283 := N.new
    refine sk (d := 284) sz (wanted_is rfl rfl e283 rfl) ?_
    intro a N; have sz := N.s sz; have df := N.d df; have e0 := N.o e0; have e1 := N.o e1; have e8 := N.o e8; have e10 := N.o e10; have e283 := N.o e283; have e284 := N.new
    refine sk (d := 285) sz (wanted_is rfl rfl e283 rfl) ?_
    intro a N; have sz := N.s sz; have df := N.d df; have e0 := N.o e0; have e1 := N.o e1; have e8 := N.o e8; have e10 := N.o e10; have e283 := N.o e283; have e285 := N.new
    refine sk (d := 286) sz (wanted_is rfl rfl e283 rfl) ?_
    intro a N; have sz := N.s sz; have df := N.d df; have e0 := N.o e0; have e1 := N.o e1; have e8 := N.o e8; have e283 := N.o e283; have e285 := N.o e285; have e286 := N.new
    refine sk (d := 287) sz (wanted_is rfl rfl e283 rfl) ?_
    intro a N; have sz := N.s sz; have df := N.d df; have e0 := N.o e0; have e1 := N.o e1; have e8 := N.o e8; have e283 := N.o e283; have e285 := N.o e285; have e287 := N.new
    refine sk (d := 288) sz (wanted_is rfl rfl e283 rfl) ?_
    intro a N; have sz := N.s sz; have df := N.d df; have e0 := N.o e0; have e1 := N.o e1; have e8 := N.o e8; have e283 := N.o e283; have e288 := N.new
    refine tn (d := 289) (v := ?_) sz ?_ ?_
    rotate_left 1
    · (intro ρ hρ; have rc : ∀ v, ρ (.const v) = v := fun v => hρ _; have r283 := (hρ _).trans e283; have r288 := (hρ _).trans e288; simp [go_sem, rc, r283, r288] <;> with_reducible rfl)
    intro a N; have sz := N.s sz; have df := N.d df; have e0 := N.o e0; have e1 := N.o e1; have e8 := N.o e8; have e289 := N.new
    exact h _ w true ⟨sz, df, e0, e1⟩ e8 e289 ⟨fun h => (by cases h), fun h => absurd (congrArg (fun z => z.1) h) hf0⟩ (Keep.refl _ w)
  subst hf0
  refine tn (d := 261) (v := ?_) sz ?_ ?_
  rotate_left 1
  · (intro ρ hρ; have r258 := (hρ _).trans e258; have r260 := (hρ _).trans e260; simp [go_sem, r258, r260] <;> with_reducible rfl)
  intro a N; have sz := N.s sz; have df := N.d df; have e0 := N.o e0; have e1 := N.o e1; have e8 := N.o e8; have e9 := N.o e9; have e10 := N.o e10; have e261 := N.new
  refine tn (d := 262) (v := ?_) sz ?_ ?_
  rotate_left 1
  · (intro ρ hρ; have r261 := (hρ _).trans e261; simp [go_sem, r261] <;> with_reducible rfl)
  intro a N; have sz := N.s sz; have df := N.d df; have e0 := N.o e0; have e1 := N.o e1; have e8 := N.o e8; have e9 := N.o e9; have e10 := N.o e10; have e262 := N.new
  refine tk (d := 263) (v := ?_) sz (wanted_is rfl rfl e262 rfl) ?_ ?_
  rotate_left 1
  · (intro ρ hρ; have r9 := (hρ _).trans e9; simp [go_sem, r9] <;> with_reducible rfl)
  intro a N; have sz := N.s sz; have df := N.d df; have e0 := N.o e0; have e1 := N.o e1; have e8 := N.o e8; have e9 := N.o e9; have e10 := N.o e10; have e262 := N.o e262; have e263 := N.new
  refine tk (d := 264) (v := ?_) sz (wanted_is rfl rfl e262 rfl) ?_ ?_
  rotate_left 1
  · (intro ρ hρ; have r263 := (hρ _).trans e263; simp [go_sem, r263, c1] <;> with_reducible rfl)
  intro a N; have sz := N.s sz; have df := N.d df; have e0 := N.o e0; have e1 := N.o e1; have e8 := N.o e8; have e9 := N.o e9; have e10 := N.o e10; have e262 := N.o e262; have e264 := N.new
  refine tk (d := 265) (v := ?_) sz (wanted_is rfl rfl e262 rfl) ?_ ?_
  rotate_left 1
  · (intro ρ hρ; have r10 := (hρ _).trans e10; simp [go_sem, r10] <;> with_reducible rfl)
  intro a N; have sz := N.s sz; have df := N.d df; have e0 := N.o e0; have e1 := N.o e1; have e8 := N.o e8; have e9 := N.o e9; have e10 := N.o e10; have e262 := N.o e262; have e264 := N.o e264; have e265 := N.new
  refine tk (d := 266) (v := ?_) sz (wanted_is rfl rfl e262 rfl) ?_ ?_
  rotate_left 1
  · (intro ρ hρ; have r265 := (hρ _).trans e265; simp [go_sem, r265, d1] <;> with_reducible rfl)
  intro a N; have sz := N.s sz; have df := N.d df; have e0 := N.o e0; have e1 := N.o e1; have e8 := N.o e8; have e9 := N.o e9; have e10 := N.o e10; have e262 := N.o e262; have e264 := N.o e264; have e266 := N.new
  by_cases hf1 : f1 = r1
  rotate_left 1
  · have hq : (f1 != r1) = true := by simpa using hf1
    refine tk (d := 267) (v := ?_) sz (wanted_is rfl rfl e262 rfl) ?_ ?_
    rotate_left 1
    · (intro ρ hρ; have r264 := (hρ _).trans e264; have r266 := (hρ _).trans e266; simp [go_sem, r264, r266, hq] <;> with_reducible rfl)
    intro a N; have sz := N.s sz; have df := N.d df; have e0 := N.o e0; have e1 := N.o e1; have e8 := N.o e8; have e9 := N.o e9; have e10 := N.o e10; have e262 := N.o e262; have e267 := N.new
    refine tn (d := 268) (v := ?_) sz ?_ ?_
    rotate_left 1
    · (intro ρ hρ; have rc : ∀ v, ρ (.const v) = v := fun v => hρ _; have r262 := (hρ _).trans e262; have r267 := (hρ _).trans e267; simp [go_sem, rc, r262, r267] <;> with_reducible rfl)
    intro a N; have sz := N.s sz; have df := N.d df; have e0 := N.o e0; have e1 := N.o e1; have e8 := N.o e8; have e9 := N.o e9; have e10 := N.o e10; have e268 := N.new
    refine tn (d := 269) (v := ?_) sz ?_ ?_
    rotate_left 1
    · (intro ρ hρ; have r268 := (hρ _).trans e268; simp [go_sem, r268] <;> with_reducible rfl)
    intro a N; have sz := N.s sz; have df := N.d df; have e0 := N.o e0; have e1 := N.o e1; have e8 := N.o e8; have e9 := N.o e9; have e10 := N.o e10; have e269 := N.new
    refine sk (d := 270) sz (wanted_is rfl rfl e269 rfl) ?_
    intro a N; have sz := N.s sz; have df := N.d df; have e0 := N.o e0; have e1 := N.o e1; have e8 := N.o e8; have e9 := N.o e9; have e10 := N.o e10; have e269 := N.o e269; have e270 := N.new
    refine sk (d := 271) sz (wanted_is rfl rfl e269 rfl) ?_
    intro a N; have sz := N.s sz; have df := N.d df; have e0 := N.o e0; have e1 := N.o e1; have e8 := N.o e8; have e9 := N.o e9; have e10 := N.o e10; have e269 := N.o e269; have e271 := N.new
    refine sk (d := 272) sz (wanted_is rfl rfl e269 rfl) ?_
    intro a N; have sz := N.s sz; have df := N.d df; have e0 := N.o e0; have e1 := N.o e1; have e8 := N.o e8; have e9 := N.o e9; have e10 := N.o e10; have e269 := N.o e269; have e271 := N.o e271; have e272 := N.new
    refine sk (d := 273) sz (wanted_is rfl rfl e269 rfl) ?_
    intro a N; have sz := N.s sz; have df := N.d df; have e0 := N.o e0; have e1 := N.o e1; have e8 := N.o e8; have e9 := N.o e9; have e10 := N.o e10; have e269 := N.o e269; have e271 := N.o e271; have e273 := N.new
    refine sk (d := 274) sz (wanted_is rfl rfl e269 rfl) ?_
    intro a N; have sz := N.s sz; have df := N.d df; have e0 := N.o e0; have e1 := N.o e1; have e8 := N.o e8; have e9 := N.o e9; have e10 := N.o e10; have e269 := N.o e269; have e274 := N.new
    refine tn (d := 275) (v := ?_) sz ?_ ?_
    rotate_left 1
    · (intro ρ hρ; have rc : ∀ v, ρ (.const v) = v := fun v => hρ _; have r269 := (hρ _).trans e269; have r274 := (hρ _).trans e274; simp [go_sem, rc, r269, r274] <;> with_reducible rfl)
    intro a N; have sz := N.s sz; have df := N.d df; have e0 := N.o e0; have e1 := N.o e1; have e8 := N.o e8; have e9 := N.o e9; have e10 := N.o e10; have e275 := N.new
    refine tn (d := 276) (v := ?_) sz ?_ ?_
    rotate_left 1
    · (intro ρ hρ; have r275 := (hρ _).trans e275; simp [go_sem, r275] <;> with_reducible rfl)
    intro a N; have sz := N.s sz; have df := N.d df; have e0 := N.o e0; have e1 := N.o e1; have e8 := N.o e8; have e9 := N.o e9; have e10 := N.o e10; have e276 := N.new
    refine sk (d := 277) sz (wanted_is rfl rfl e276 rfl) ?_
    intro a N; have sz := N.s sz; have df := N.d df; have e0 := N.o e0; have e1 := N.o e1; have e8 := N.o e8; have e9 := N.o e9; have e10 := N.o e10; have e276 := N.o e276; have e277 := N.new
    refine sk (d := 278) sz (wanted_is rfl rfl e276 rfl) ?_
    intro a N; have sz := N.s sz; have df := N.d df; have e0 := N.o e0; have e1 := N.o e1; have e8 := N.o e8; have e9 := N.o e9; have e10 := N.o e10; have e276 := N.o e276; have e278 := N.new
    refine sk (d := 279) sz (wanted_is rfl rfl e276 rfl) ?_
    intro a N; have sz := N.s sz; have df := N.d df; have e0 := N.o e0; have e1 := N.o e1; have e8 := N.o e8; have e9 := N.o e9; have e10 := N.o e10; have e276 := N.o e276; have e278 := N.o e278; have e279 := N.new
    refine sk (d := 280) sz (wanted_is rfl rfl e276 rfl) ?_
    intro a N; have sz := N.s sz; have df := N.d df; have e0 := N.o e0; have e1 := N.o e1; have e8 := N.o e8; have e9 := N.o e9; have e10 := N.o e10; have e276 := N.o e276; have e278 := N.o e278; have e280 := N.new
    refine sk (d := 281) sz (wanted_is rfl rfl e276 rfl) ?_
    intro a N; have sz := N.s sz; have df := N.d df; have e0 := N.o e0; have e1 := N.o e1; have e8 := N.o e8; have e9 := N.o e9; have e10 := N.o e10; have e276 := N.o e276; have e281 := N.new
    refine tn (d := 282) (v := ?_) sz ?_ ?_
    rotate_left 1
    · (intro ρ hρ; have rc : ∀ v, ρ (.const v) = v := fun v => hρ _; have r276 := (hρ _).trans e276; have r281 := (hρ _).trans e281; simp [go_sem, rc, r276, r281] <;> with_reducible rfl)
    intro a N; have sz := N.s sz; have df := N.d df; have e0 := N.o e0; have e1 := N.o e1; have e8 := N.o e8; have e9 := N.o e9; have e10 := N.o e10; have e282 := N.new
    refine tn (d := 283) (v := ?_) sz ?_ ?_
    rotate_left 1
    · (intro ρ hρ; have r282 := (hρ _).trans e282; simp [go_sem, r282] <;> with_reducible rfl)
    intro a N; have sz := N.s sz; have df := N.d df; have e0 := N.o e0; have e1 := N.o e1; have e8 := N.o e8; have e9 := N.o e9; have e10 := N.o e10; have e283 := N.new
    refine sk (d := 284) sz (wanted_is rfl rfl e283 rfl) ?_
    intro a N; have sz := N.s sz; have df := N.d df; have e0 := N.o e0; have e1 := N.o e1; have e8 := N.o e8; have e10 := N.o e10; have e283 := N.o e283; have e284 := N.new
    refine sk (d := 285) sz (wanted_is rfl rfl e283 rfl) ?_
    intro a N; have sz := N.s sz; have df := N.d df; have e0 := N.o e0; have e1 := N.o e1; have e8 := N.o e8; have e10 := N.o e10; have e283 := N.o e283; have e285 := N.new
    refine sk (d := 286) sz (wanted_is rfl rfl e283 rfl) ?_
    intro a N; have sz := N.s sz; have df := N.d df; have e0 := N.o e0; have e1 := N.o e1; have e8 := N.o e8; have e283 := N.o e283; have e285 := N.o e285; have e286 := N.new
    refine sk (d := 287) sz (wanted_is rfl rfl e283 rfl) ?_
    intro a N; have sz := N.s sz; have df := N.d df; have e0 := N.o e0; have e1 := N.o e1; have e8 := N.o e8; have e283 := N.o e283; have e285 := N.o e285; have e287 := N.new
    refine sk (d := 288) sz (wanted_is rfl rfl e283 rfl) ?_
    intro a N; have sz := N.s sz; have df := N.d df; have e0 := N.o e0; have e1 := N.o e1; have e8 := N.o e8; have e283 := N.o e283; have e288 := N.new
    refine tn (d := 289) (v := ?_) sz ?_ ?_
    rotate_left 1
    · (intro ρ hρ; have rc : ∀ v, ρ (.const v) = v := fun v => hρ _; have r283 := (hρ _).trans e283; have r288 := (hρ _).trans e288; simp [go_sem, rc, r283, r288] <;> with_reducible rfl)
    intro a N; have sz := N.s sz; have df := N.d df; have e0 := N.o e0; have e1 := N.o e1; have e8 := N.o e8; have e289 := N.new
    exact h _ w true ⟨sz, df, e0, e1⟩ e8 e289 ⟨fun h => (by cases h), fun h => absurd (congrArg (fun z => z.2.1) h) hf1⟩ (Keep.refl _ w)
  subst hf1
  refine tk (d := 267) (v := ?_) sz (wanted_is rfl rfl e262 rfl) ?_ ?_
  rotate_left 1
  · (intro ρ hρ; have r264 := (hρ _).trans e264; have r266 := (hρ _).trans e266; simp [go_sem, r264, r266] <;> with_reducible rfl)
  intro a N; have sz := N.s sz; have df := N.d df; have e0 := N.o e0; have e1 := N.o e1; have e8 := N.o e8; have e9 := N.o e9; have e10 := N.o e10; have e262 := N.o e262; have e267 := N.new
  refine tn (d := 268) (v := ?_) sz ?_ ?_
  rotate_left 1
  · (intro ρ hρ; have rc : ∀ v, ρ (.const v) = v := fun v => hρ _; have r262 := (hρ _).trans e262; have r267 := (hρ _).trans e267; simp [go_sem, rc, r262, r267] <;> with_reducible rfl)
  intro a N; have sz := N.s sz; have df := N.d df; have e0 := N.o e0; have e1 := N.o e1; have e8 := N.o e8; have e9 := N.o e9; have e10 := N.o e10; have e268 := N.new
  refine tn (d := 269) (v := ?_) sz ?_ ?_
  rotate_left 1
  · (intro ρ hρ; have r268 := (hρ _).trans e268; simp [go_sem, r268] <;> with_reducible rfl)
  intro a N; have sz := N.s sz; have df := N.d df; have e0 := N.o e0; have e1 := N.o e1; have e8 := N.o e8; have e9 := N.o e9; have e10 := N.o e10; have e269 := N.new
  refine tk (d := 270) (v := ?_) sz (wanted_is rfl rfl e269 rfl) ?_ ?_
  rotate_left 1
  · (intro ρ hρ; have r9 := (hρ _).trans e9; simp [go_sem, r9] <;> with_reducible rfl)
  intro a N; have sz := N.s sz; have df := N.d df; have e0 := N.o e0; have e1 := N.o e1; have e8 := N.o e8; have e9 := N.o e9; have e10 := N.o e10; have e269 := N.o e269; have e270 := N.new
  refine tk (d := 271) (v := ?_) sz (wanted_is rfl rfl e269 rfl) ?_ ?_
  rotate_left 1
  · (intro ρ hρ; have r270 := (hρ _).trans e270; simp [go_sem, r270, c2] <;> with_reducible rfl)
  intro a N; have sz := N.s sz; have df := N.d df; have e0 := N.o e0; have e1 := N.o e1; have e8 := N.o e8; have e9 := N.o e9; have e10 := N.o e10; have e269 := N.o e269; have e271 := N.new
  refine tk (d := 272) (v := ?_) sz (wanted_is rfl rfl e269 rfl) ?_ ?_
  rotate_left 1
  · (intro ρ hρ; have r10 := (hρ _).trans e10; simp [go_sem, r10] <;> with_reducible rfl)
  intro a N; have sz := N.s sz; have df := N.d df; have e0 := N.o e0; have e1 := N.o e1; have e8 := N.o e8; have e9 := N.o e9; have e10 := N.o e10; have e269 := N.o e269; have e271 := N.o e271; have e272 := N.new
  refine tk (d := 273) (v := ?_) sz (wanted_is rfl rfl e269 rfl) ?_ ?_
  rotate_left 1
  · (intro ρ hρ; have r272 := (hρ _).trans e272; simp [go_sem, r272, d2] <;> with_reducible rfl)
  intro a N; have sz := N.s sz; have df := N.d df; have e0 := N.o e0; have e1 := N.o e1; have e8 := N.o e8; have e9 := N.o e9; have e10 := N.o e10; have e269 := N.o e269; have e271 := N.o e271; have e273 := N.new
  by_cases hf2 : f2 = r2
  rotate_left 1
  · have hq : (f2 != r2) = true := by simpa using hf2
    refine tk (d := 274) (v := ?_) sz (wanted_is rfl rfl e269 rfl) ?_ ?_
    rotate_left 1
    · (intro ρ hρ; have r271 := (hρ _).trans e271; have r273 := (hρ _).trans e273; simp [go_sem, r271, r273, hq] <;> with_reducible rfl)
    intro a N; have sz := N.s sz; have df := N.d df; have e0 := N.o e0; have e1 := N.o e1; have e8 := N.o e8; have e9 := N.o e9; have e10 := N.o e10; have e269 := N.o e269; have e274 := N.new
    refine tn (d := 275) (v := ?_) sz ?_ ?_
    rotate_left 1
    · (intro ρ hρ; have rc : ∀ v, ρ (.const v) = v := fun v => hρ _; have r269 := (hρ _).trans e269; have r274 := (hρ _).trans e274; simp [go_sem, rc, r269, r274] <;> with_reducible rfl)
    intro a N; have sz := N.s sz; have df := N.d df; have e0 := N.o e0; have e1 := N.o e1; have e8 := N.o e8; have e9 := N.o e9; have e10 := N.o e10; have e275 := N.new
    refine tn (d := 276) (v := ?_) sz ?_ ?_
    rotate_left 1
    · (intro ρ hρ; have r275 := (hρ _).trans e275; simp [go_sem, r275] <;> with_reducible rfl)
    intro a N; have sz := N.s sz; have df := N.d df; have e0 := N.o e0; have e1 := N.o e1; have e8 := N.o e8; have e9 := N.o e9; have e10 := N.o e10; have e276 := N.new
    refine sk (d := 277) sz (wanted_is rfl rfl e276 rfl) ?_
    intro a N; have sz := N.s sz; have df := N.d df; have e0 := N.o e0; have e1 := N.o e1; have e8 := N.o e8; have e9 := N.o e9; have e10 := N.o e10; have e276 := N.o e276; have e277 := N.new
    refine sk (d := 278) sz (wanted_is rfl rfl e276 rfl) ?_
    intro a N; have sz := N.s sz; have df := N.d df; have e0 := N.o e0; have e1 := N.o e1; have e8 := N.o e8; have e9 := N.o e9; have e10 := N.o e10; have e276 := N.o e276; have e278 := N.new
    refine sk (d := 279) sz (wanted_is rfl rfl e276 rfl) ?_
    intro a N; have sz := N.s sz; have df := N.d df; have e0 := N.o e0; have e1 := N.o e1; have e8 := N.o e8; have e9 := N.o e9; have e10 := N.o e10; have e276 := N.o e276; have e278 := N.o e278; have e279 := N.new
    refine sk (d := 280) sz (wanted_is rfl rfl e276 rfl) ?_
    intro a N; have sz := N.s sz; have df := N.d df; have e0 := N.o e0; have e1 := N.o e1; have e8 := N.o e8; have e9 := N.o e9; have e10 := N.o e10; have e276 := N.o e276; have e278 := N.o e278; have e280 := N.new
    refine sk (d := 281) sz (wanted_is rfl rfl e276 rfl) ?_
    intro a N; have sz := N.s sz; have df := N.d df; have e0 := N.o e0; have e1 := N.o e1; have e8 := N.o e8; have e9 := N.o e9; have e10 := N.o e10; have e276 := N.o e276; have e281 := N.new
    refine tn (d := 282) (v := ?_) sz ?_ ?_
    rotate_left 1
    · (intro ρ hρ; have rc : ∀ v, ρ (.const v) = v := fun v => hρ _; have r276 := (hρ _).trans e276; have r281 := (hρ _).trans e281; simp [go_sem, rc, r276, r281] <;> with_reducible rfl)
    intro a N; have sz := N.s sz; have df := N.d df; have e0 := N.o e0; have e1 := N.o e1; have e8 := N.o e8; have e9 := N.o e9; have e10 := N.o e10; have e282 := N.new
    refine tn (d := 283) (v := ?_) sz ?_ ?_
    rotate_left 1
    · (intro ρ hρ; have r282 := (hρ _).trans e282; simp [go_sem, r282] <;> with_reducible rfl)
    intro a N; have sz := N.s sz; have df := N.d df; have e0 := N.o e0; have e1 := N.o e1; have e8 := N.o e8; have e9 := N.o e9; have e10 := N.o e10; have e283 := N.new
    refine sk (d := 284) sz (wanted_is rfl rfl e283 rfl) ?_
    intro a N; have sz := N.s sz; have df := N.d df; have e0 := N.o e0; have e1 := N.o e1; have e8 := N.o e8; have e10 := N.o e10; have e283 := N.o e283; have e284 := N.new
    refine sk (d := 285) sz (wanted_is rfl rfl e283 rfl) ?_
    intro a N; have sz := N.s sz; have df := N.d df; have e0 := N.o e0; have e1 := N.o e1; have e8 := N.o e8; have e10 := N.o e10; have e283 := N.o e283; have e285 := N.new
    refine sk (d := 286) sz (wanted_is rfl rfl e283 rfl) ?_
    intro a N; have sz := N.s sz; have df := N.d df; have e0 := N.o e0; have e1 := N.o e1; have e8 := N.o e8; have e283 := N.o e283; have e285 := N.o e285; have e286 := N.new
    refine sk (d := 287) sz (wanted_is rfl rfl e283 rfl) ?_
    intro a N; have sz := N.s sz; have df := N.d df; have e0 := N.o e0; have e1 := N.o e1; have e8 := N.o e8; have e283 := N.o e283; have e285 := N.o e285; have e287 := N.new
    refine sk (d := 288) sz (wanted_is rfl rfl e283 rfl) ?_
    intro a N; have sz := N.s sz; have df := N.d df; have e0 := N.o e0; have e1 := N.o e1; have e8 := N.o e8; have e283 := N.o e283; have e288 := N.new
    refine tn (d := 289) (v := ?_) sz ?_ ?_
    rotate_left 1
    · (intro ρ hρ; have rc : ∀ v, ρ (.const v) = v := fun v => hρ _; have r283 := (hρ _).trans e283; have r288 := (hρ _).trans e288; simp [go_sem, rc, r283, r288] <;> with_reducible rfl)
    intro a N; have sz := N.s sz; have df := N.d df; have e0 := N.o e0; have e1 := N.o e1; have e8 := N.o e8; have e289 := N.new
    exact h _ w true ⟨sz, df, e0, e1⟩ e8 e289 ⟨fun h => (by cases h), fun h => absurd (congrArg (fun z => z.2.2.1) h) hf2⟩ (Keep.refl _ w)
  subst hf2
  refine tk (d := 274) (v := ?_) sz (wanted_is rfl rfl e269 rfl) ?_ ?_
  rotate_left 1
  · (intro ρ hρ; have r271 := (hρ _).trans e271; have r273 := (hρ _).trans e273; simp [go_sem, r271, r273] <;> with_reducible rfl)
  intro a N; have sz := N.s sz; have df := N.d df; have e0 := N.o e0; have e1 := N.o e1; have e8 := N.o e8; have e9 := N.o e9; have e10 := N.o e10; have e269 := N.o e269; have e274 := N.new
  refine tn (d := 275) (v := ?_) sz ?_ ?_
  rotate_left 1
  · (intro ρ hρ; have rc : ∀ v, ρ (.const v) = v := fun v => hρ _; have r269 := (hρ _).trans e269; have r274 := (hρ _).trans e274; simp [go_sem, rc, r269, r274] <;> with_reducible rfl)
  intro a N; have sz := N.s sz; have df := N.d df; have e0 := N.o e0; have e1 := N.o e1; have e8 := N.o e8; have e9 := N.o e9; have e10 := N.o e10; have e275 := N.new
  refine tn (d := 276) (v := ?_) sz ?_ ?_
  rotate_left 1
  · (intro ρ hρ; have r275 := (hρ _).trans e275; simp [go_sem, r275] <;> with_reducible rfl)
  intro a N; have sz := N.s sz; have df := N.d df; have e0 := N.o e0; have e1 := N.o e1; have e8 := N.o e8; have e9 := N.o e9; have e10 := N.o e10; have e276 := N.new
  refine tk (d := 277) (v := ?_) sz (wanted_is rfl rfl e276 rfl) ?_ ?_
  rotate_left 1
  · (intro ρ hρ; have r9 := (hρ _).trans e9; simp [go_sem, r9] <;> with_reducible rfl)
  intro a N; have sz := N.s sz; have df := N.d df; have e0 := N.o e0; have e1 := N.o e1; have e8 := N.o e8; have e9 := N.o e9; have e10 := N.o e10; have e276 := N.o e276; have e277 := N.new
  refine tk (d := 278) (v := ?_) sz (wanted_is rfl rfl e276 rfl) ?_ ?_
  rotate_left 1
  · (intro ρ hρ; have r277 := (hρ _).trans e277; simp [go_sem, r277, c3] <;> with_reducible rfl)
  intro a N; have sz := N.s sz; have df := N.d df; have e0 := N.o e0; have e1 := N.o e1; have e8 := N.o e8; have e9 := N.o e9; have e10 := N.o e10; have e276 := N.o e276; have e278 := N.new
  refine tk (d := 279) (v := ?_) sz (wanted_is rfl rfl e276 rfl) ?_ ?_
  rotate_left 1
  · (intro ρ hρ; have r10 := (hρ _).trans e10; simp [go_sem, r10] <;> with_reducible rfl)
  intro a N; have sz := N.s sz; have df := N.d df; have e0 := N.o e0; have e1 := N.o e1; have e8 := N.o e8; have e9 := N.o e9; have e10 := N.o e10; have e276 := N.o e276; have e278 := N.o e278; have e279 := N.new
  refine tk (d := 280) (v := ?_) sz (wanted_is rfl rfl e276 rfl) ?_ ?_
  rotate_left 1
  · (intro ρ hρ; have r279 := (hρ _).trans e279; simp [go_sem, r279, d3] <;> with_reducible rfl)
  intro a N; have sz := N.s sz; have df := N.d df; have e0 := N.o e0; have e1 := N.o e1; have e8 := N.o e8; have e9 := N.o e9; have e10 := N.o e10; have e276 := N.o e276; have e278 := N.o e278; have e280 := N.new
  by_cases hf3 : f3 = r3
  rotate_left 1
  · have hq : (f3 != r3) = true := by simpa using hf3
    refine tk (d := 281) (v := ?_) sz (wanted_is rfl rfl e276 rfl) ?_ ?_
    rotate_left 1
    · (intro ρ hρ; have r278 := (hρ _).trans e278; have r280 := (hρ _).trans e280; simp [go_sem, r278, r280, hq] <;> with_reducible rfl)
    intro a N; have sz := N.s sz; have df := N.d df; have e0 := N.o e0; have e1 := N.o e1; have e8 := N.o e8; have e9 := N.o e9; have e10 := N.o e10; have e276 := N.o e276; have e281 := N.new
    refine tn (d := 282) (v := ?_) sz ?_ ?_
    rotate_left 1
    · (intro ρ hρ; have rc : ∀ v, ρ (.const v) = v := fun v => hρ _; have r276 := (hρ _).trans e276; have r281 := (hρ _).trans e281; simp [go_sem, rc, r276, r281] <;> with_reducible rfl)
    intro a N; have sz := N.s sz; have df := N.d df; have e0 := N.o e0; have e1 := N.o e1; have e8 := N.o e8; have e9 := N.o e9; have e10 := N.o e10; have e282 := N.new
    refine tn (d := 283) (v := ?_) sz ?_ ?_
    rotate_left 1
    · (intro ρ hρ; have r282 := (hρ _).trans e282; simp [go_sem, r282] <;> with_reducible rfl)
    intro a N; have sz := N.s sz; have df := N.d df; have e0 := N.o e0; have e1 := N.o e1; have e8 := N.o e8; have e9 := N.o e9; have e10 := N.o e10; have e283 := N.new
    refine sk (d := 284) sz (wanted_is rfl rfl e283 rfl) ?_
    intro a N; have sz := N.s sz; have df := N.d df; have e0 := N.o e0; have e1 := N.o e1; have e8 := N.o e8; have e10 := N.o e10; have e283 := N.o e283; have e284 := N.new
    refine sk (d := 285) sz (wanted_is rfl rfl e283 rfl) ?_
    intro a N; have sz := N.s sz; have df := N.d df; have e0 := N.o e0; have e1 := N.o e1; have e8 := N.o e8; have e10 := N.o e10; have e283 := N.o e283; have e285 := N.new
    refine sk (d := 286) sz (wanted_is rfl rfl e283 rfl) ?_
    intro a N; have sz := N.s sz; have df := N.d df; have e0 := N.o e0; have e1 := N.o e1; have e8 := N.o e8; have e283 := N.o e283; have e285 := N.o e285; have e286 := N.new
    refine sk (d := 287) sz (wanted_is rfl rfl e283 rfl) ?_
    intro a N; have sz := N.s sz; have df := N.d df; have e0 := N.o e0; have e1 := N.o e1; have e8 := N.o e8; have e283 := N.o e283; have e285 := N.o e285; have e287 := N.new
    refine sk (d := 288) sz (wanted_is rfl rfl e283 rfl) ?_
    intro a N; have sz := N.s sz; have df := N.d df; have e0 := N.o e0; have e1 := N.o e1; have e8 := N.o e8; have e283 := N.o e283; have e288 := N.new
    refine tn (d := 289) (v := ?_) sz ?_ ?_
    rotate_left 1
    · (intro ρ hρ; have rc : ∀ v, ρ (.const v) = v := fun v => hρ _; have r283 := (hρ _).trans e283; have r288 := (hρ _).trans e288; simp [go_sem, rc, r283, r288] <;> with_reducible rfl)
    intro a N; have sz := N.s sz; have df := N.d df; have e0 := N.o e0; have e1 := N.o e1; have e8 := N.o e8; have e289 := N.new
    exact h _ w true ⟨sz, df, e0, e1⟩ e8 e289 ⟨fun h => (by cases h), fun h => absurd (congrArg (fun z => z.2.2.2.1) h) hf3⟩ (Keep.refl _ w)
  subst hf3
  refine tk (d := 281) (v := ?_) sz (wanted_is rfl rfl e276 rfl) ?_ ?_
  rotate_left 1
  · (intro ρ hρ; have r278 := (hρ _).trans e278; have r280 := (hρ _).trans e280; simp [go_sem, r278, r280] <;> with_reducible rfl)
  intro a N; have sz := N.s sz; have df := N.d df; have e0 := N.o e0; have e1 := N.o e1; have e8 := N.o e8; have e9 := N.o e9; have e10 := N.o e10; have e276 := N.o e276; have e281 := N.new
  refine tn (d := 282) (v := ?_) sz ?_ ?_
  rotate_left 1
  · (intro ρ hρ; have rc : ∀ v, ρ (.const v) = v := fun v => hρ _; have r276 := (hρ _).trans e276; have r281 := (hρ _).trans e281; simp [go_sem, rc, r276, r281] <;> with_reducible rfl)
  intro a N; have sz := N.s sz; have df := N.d df; have e0 := N.o e0; have e1 := N.o e1; have e8 := N.o e8; have e9 := N.o e9; have e10 := N.o e10; have e282 := N.new
  refine tn (d := 283) (v := ?_) sz ?_ ?_
  rotate_left 1
  · (intro ρ hρ; have r282 := (hρ _).trans e282; simp [go_sem, r282] <;> with_reducible rfl)
  intro a N; have sz := N.s sz; have df := N.d df; have e0 := N.o e0; have e1 := N.o e1; have e8 := N.o e8; have e9 := N.o e9; have e10 := N.o e10; have e283 := N.new
  refine tk (d := 284) (v := ?_) sz (wanted_is rfl rfl e283 rfl) ?_ ?_
  rotate_left 1
  · (intro ρ hρ; have r9 := (hρ _).trans e9; simp [go_sem, r9] <;> with_reducible rfl)
  intro a N; have sz := N.s sz; have df := N.d df; have e0 := N.o e0; have e1 := N.o e1; have e8 := N.o e8; have e10 := N.o e10; have e283 := N.o e283; have e284 := N.new
  refine tk (d := 285) (v := ?_) sz (wanted_is rfl rfl e283 rfl) ?_ ?_
  rotate_left 1
  · (intro ρ hρ; have r284 := (hρ _).trans e284; simp [go_sem, r284, c4] <;> with_reducible rfl)
  intro a N; have sz := N.s sz; have df := N.d df; have e0 := N.o e0; have e1 := N.o e1; have e8 := N.o e8; have e10 := N.o e10; have e283 := N.o e283; have e285 := N.new
  refine tk (d := 286) (v := ?_) sz (wanted_is rfl rfl e283 rfl) ?_ ?_
  rotate_left 1
  · (intro ρ hρ; have r10 := (hρ _).trans e10; simp [go_sem, r10] <;> with_reducible rfl)
  intro a N; have sz := N.s sz; have df := N.d df; have e0 := N.o e0; have e1 := N.o e1; have e8 := N.o e8; have e283 := N.o e283; have e285 := N.o e285; have e286 := N.new
  refine tk (d := 287) (v := ?_) sz (wanted_is rfl rfl e283 rfl) ?_ ?_
  rotate_left 1
  · (intro ρ hρ; have r286 := (hρ _).trans e286; simp [go_sem, r286, d4] <;> with_reducible rfl)
  intro a N; have sz := N.s sz; have df := N.d df; have e0 := N.o e0; have e1 := N.o e1; have e8 := N.o e8; have e283 := N.o e283; have e285 := N.o e285; have e287 := N.new
  by_cases hf4 : f4 = r4
  rotate_left 1
  · have hq : (f4.toList == r4.toList) = false := str_ne hf4
    refine tk (d := 288) (v := ?_) sz (wanted_is rfl rfl e283 rfl) ?_ ?_
    rotate_left 1
    · (intro ρ hρ; have r285 := (hρ _).trans e285; have r287 := (hρ _).trans e287; simp [go_sem, r285, r287, hq] <;> with_reducible rfl)
    intro a N; have sz := N.s sz; have df := N.d df; have e0 := N.o e0; have e1 := N.o e1; have e8 := N.o e8; have e283 := N.o e283; have e288 := N.new
    refine tn (d := 289) (v := ?_) sz ?_ ?_
    rotate_left 1
    · (intro ρ hρ; have rc : ∀ v, ρ (.const v) = v := fun v => hρ _; have r283 := (hρ _).trans e283; have r288 := (hρ _).trans e288; simp [go_sem, rc, r283, r288] <;> with_reducible rfl)
    intro a N; have sz := N.s sz; have df := N.d df; have e0 := N.o e0; have e1 := N.o e1; have e8 := N.o e8; have e289 := N.new
    exact h _ w true ⟨sz, df, e0, e1⟩ e8 e289 ⟨fun h => (by cases h), fun h => absurd (congrArg (fun z => z.2.2.2.2) h) hf4⟩ (Keep.refl _ w)
  subst hf4
  refine tk (d := 288) (v := ?_) sz (wanted_is rfl rfl e283 rfl) ?_ ?_
  rotate_left 1
  · (intro ρ hρ; have r285 := (hρ _).trans e285; have r287 := (hρ _).trans e287; simp [go_sem, r285, r287] <;> with_reducible rfl)
  intro a N; have sz := N.s sz; have df := N.d df; have e0 := N.o e0; have e1 := N.o e1; have e8 := N.o e8; have e283 := N.o e283; have e288 := N.new
  refine tn (d := 289) (v := ?_) sz ?_ ?_
  rotate_left 1
  · (intro ρ hρ; have rc : ∀ v, ρ (.const v) = v := fun v => hρ _; have r283 := (hρ _).trans e283; have r288 := (hρ _).trans e288; simp [go_sem, rc, r283, r288] <;> with_reducible rfl)
  intro a N; have sz := N.s sz; have df := N.d df; have e0 := N.o e0; have e1 := N.o e1; have e8 := N.o e8; have e289 := N.new
  exact h _ w false ⟨sz, df, e0, e1⟩ e8 e289 ⟨fun _ => rfl, fun _ => rfl⟩ (Keep.refl _ w)

theorem reT_loop {g o g' o' n d1 d2 : Nat} {w0 : World} {b1 b2 : Option Addr} {xs ys : List (Int × Int × Int × Int × ByteArray)} {Pb Qb : Nat → Prop} {Q : Exit → Act → World → Prop} (hQ : PanicOnly Q) (hX : LAt eThing Pb w0 (.slice b1 n d1) xs) (hY : LAt eThing Qb w0 (.slice b2 n d2) ys) (hn : n = xs.length) (hm : n = ys.length)
    (HP : Hid (∀ w', Keep (fun _ => False) w0 w' → w'.cell? ⟨g, o + 4, none⟩ = some (.slice b1 n d1) ∧ w'.cell? ⟨g', o' + 4, none⟩ = some (.slice b2 n d2)))
    (hret : ∀ a w, FrE (.pointer (some ⟨g, o, none⟩)) (.pointer (some ⟨g', o', none⟩)) a → a.eval (.tmp 4) = .bool false → Keep (fun _ => False) w0 w → xs ≠ ys → Q .ret a w)
    (hdone : ∀ a w, FrE (.pointer (some ⟨g, o, none⟩)) (.pointer (some ⟨g', o', none⟩)) a → Keep (fun _ => False) w0 w → xs = ys → Q .normal a w)
    {a : Act} {w : World} (ha : FrE (.pointer (some ⟨g, o, none⟩)) (.pointer (some ⟨g', o', none⟩)) a) (hi : a.eval (.tmp 8) = .int .i64 0) (hk : Keep (fun _ => False) w0 w) :
    (Code.block 2 (Code.loop (((rgEq 12).seq (Code.cond (.tmp 240) .skip (.exit 2))).seq ((Code.block 3 ((rgEq 14).seq ((rgEq 15).seq (Code.cond (.tmp 289) ((rgEq 16).seq .ret) .skip)))).seq (rgEq 13))))).wp Try.prog Q a w := by
  have hcap : (n : Int) ≤ 9223372036854775807 := by obtain ⟨_, _, e, _, h9, _⟩ := hX; simp only [Value.slice.injEq] at e; obtain ⟨_, h8, _⟩ := e; have := ‹_ ≤ maxLen›; unfold maxLen at *; omega
  refine eqLoop (i := 8) (c1 := 240) (c2 := 289) (RR := rgEq 16) (by rw [← hn, ← hm]) hQ (fun a w k Q ha hi hk h => reT_cond (n := n) ha hi (HP.out _ hk).1 (fun a' ha' hi' hc' => h a' ha' hi' (by rw [hc', hn]))) ?_ (fun a w Q ha h => reT_ret ha h) (fun a w k Q ha hi hlt h => reT_post ha hi (by omega) h) hret hdone ha hi hk
  intro a w k x y Q hQ ha hi hk hx hy h
  have hkn : k < n := by have := (List.getElem?_eq_some_iff.1 hx).1; omega
  obtain ⟨g1, o1, cs1, rfl, hg1, _, hH1, hr1⟩ := (hX.keep hk (fun _ _ _ h => h)).get k x hx
  obtain ⟨g2, o2, cs2, rfl, hg2, _, hH2, hr2⟩ := (hY.keep hk (fun _ _ _ h => h)).get k y hy
  obtain ⟨f0, f1, f2, f3, f4⟩ := x
  obtain ⟨r0, r1, r2, r3, r4⟩ := y
  have hcs1 : cs1 = [.int .i64 f0, .int .i64 f1, .int .i64 f2, .int .i64 f3, .string f4] := hH1
  have hcs2 : cs2 = [.int .i64 r0, .int .i64 r1, .int .i64 r2, .int .i64 r3, .string r4] := hH2
  subst hcs1 hcs2
  have HPP : Hid (∀ w', Keep (fun _ => False) w w' → w'.cell? ⟨g, o + 4, none⟩ = some (.slice (some ⟨g1, o1, none⟩) n d1) ∧ w'.cell? ⟨g', o' + 4, none⟩ = some (.slice (some ⟨g2, o2, none⟩) n d2) ∧ w'.rangeAt g1 (o1 + k * 5) _ ∧ w'.rangeAt g2 (o2 + k * 5) _) := Lib.hid (fun w' kk => ⟨(HP.out _ (hk.trans kk (fun _ h => h.elim))).1, (HP.out _ (hk.trans kk (fun _ h => h.elim))).2, rangeAt_keep hr1 kk hg1 (fun h => h), rangeAt_keep hr2 kk hg2 (fun h => h)⟩)
  refine wp_seq (reT_asg (n := n) (fun c a d v w h => hQ c a d v w h) ha hi hkn hkn HPP (fun a1 w1 h1 h2 ha1 hi1 ex1 ey1 t1 t2 k1 => ?_))
  refine wp_seq (reT_cmp ha1 hi1 ex1 ey1 t1 t2 (fun a2 w2 b ha2 hi2 hb2 hiff k2 => ?_))
  exact h a2 w2 b ha2 hi2 hb2 hiff ((hk.trans k1 (fun _ h => h.elim)).trans k2 (fun _ h => h.elim))

end Go.Proofs.Ytpefkellcigpkaa.Cd
/- codec: the reference's comparison: its loop over Lots. (made by tools/genre2.py) -/
namespace Go.Proofs.Ytpefkellcigpkaa.Cd
open Go.RowKit Go.Deep Go.Proofs.Ytpefkellcigpkaa
set_option maxRecDepth 100000

theorem reL_cond {g o g' o' : Nat} {a : Act} {w : World} {Q : Exit → Act → World → Prop} {k n d : Nat} {b : Option Addr} (ha : FrE (.pointer (some ⟨g, o, none⟩)) (.pointer (some ⟨g', o', none⟩)) a) (e17 : a.eval (.tmp 17) = .int .i64 (k : Int)) (c : w.cell? ⟨g, o + 7, none⟩ = some (.slice b n d))
    (h : ∀ a', FrE (.pointer (some ⟨g, o, none⟩)) (.pointer (some ⟨g', o', none⟩)) a' → a'.eval (.tmp 17) = .int .i64 (k : Int) → a'.eval (.tmp 395) = .bool (decide (k < n)) → Q .normal a' w) : (rgEq 30).wp Try.prog Q a w := by
  obtain ⟨sz, df, e0, e1⟩ := ha
  conv => arg 2; whnf
  refine wp_region_list ?_
  dsimp only
  refine tn (d := 389) (v := ?_) sz ?_ ?_
  rotate_left 1
  · (intro ρ hρ; have r17 := (hρ _).trans e17; simp [go_sem, r17] <;> with_reducible rfl)
  intro a N; have sz := N.s sz; have df := N.d df; have e0 := N.o e0; have e1 := N.o e1; have e17 := N.o e17; have e389 := N.new
  refine tn (d := 390) (v := ?_) sz ?_ ?_
  rotate_left 1
  · (intro ρ hρ; have r0 := (hρ _).trans e0; simp [go_sem, r0] <;> with_reducible rfl)
  intro a N; have sz := N.s sz; have df := N.d df; have e0 := N.o e0; have e1 := N.o e1; have e17 := N.o e17; have e389 := N.o e389; have e390 := N.new
  refine tn (d := 391) (v := ?_) sz ?_ ?_
  rotate_left 1
  · (intro ρ hρ; have r390 := (hρ _).trans e390; simp [go_sem, r390] <;> with_reducible rfl)
  intro a N; have sz := N.s sz; have df := N.d df; have e0 := N.o e0; have e1 := N.o e1; have e17 := N.o e17; have e389 := N.o e389; have e391 := N.new
  refine tn (d := 392) (v := ?_) sz ?_ ?_
  rotate_left 1
  · (intro ρ hρ; have r391 := (hρ _).trans e391; simp [go_sem, r391] <;> with_reducible rfl)
  intro a N; have sz := N.s sz; have df := N.d df; have e0 := N.o e0; have e1 := N.o e1; have e17 := N.o e17; have e389 := N.o e389; have e392 := N.new
  refine tn (d := 393) (v := ?_) sz ?_ ?_
  rotate_left 1
  · (intro ρ hρ; have r392 := (hρ _).trans e392; simp [go_sem, r392, c] <;> with_reducible rfl)
  intro a N; have sz := N.s sz; have df := N.d df; have e0 := N.o e0; have e1 := N.o e1; have e17 := N.o e17; have e389 := N.o e389; have e393 := N.new
  refine tn (d := 394) (v := ?_) sz ?_ ?_
  rotate_left 1
  · (intro ρ hρ; have r393 := (hρ _).trans e393; simp [go_sem, r393] <;> with_reducible rfl)
  intro a N; have sz := N.s sz; have df := N.d df; have e0 := N.o e0; have e1 := N.o e1; have e17 := N.o e17; have e389 := N.o e389; have e394 := N.new
  refine tn (d := 395) (v := ?_) sz ?_ ?_
  rotate_left 1
  · (intro ρ hρ; have r389 := (hρ _).trans e389; have r394 := (hρ _).trans e394; simp [go_sem, r389, r394] <;> with_reducible rfl)
  intro a N; have sz := N.s sz; have df := N.d df; have e0 := N.o e0; have e1 := N.o e1; have e17 := N.o e17; have e395 := N.new
  exact h _ ⟨sz, df, e0, e1⟩ e17 e395

theorem reL_post {g o g' o' : Nat} {a : Act} {w : World} {Q : Exit → Act → World → Prop} {k : Nat} (ha : FrE (.pointer (some ⟨g, o, none⟩)) (.pointer (some ⟨g', o', none⟩)) a) (e17 : a.eval (.tmp 17) = .int .i64 (k : Int)) (hk : (k : Int) + 1 ≤ 9223372036854775807)
    (h : ∀ a', FrE (.pointer (some ⟨g, o, none⟩)) (.pointer (some ⟨g', o', none⟩)) a' → a'.eval (.tmp 17) = .int .i64 ((k + 1 : Nat) : Int) → Q .normal a' w) : (rgEq 31).wp Try.prog Q a w := by
  obtain ⟨sz, df, e0, e1⟩ := ha
  have hwr : IntKind.i64.wrap ((k : Int) + 1) = ((k + 1 : Nat) : Int) := i64_nat (k + 1) (by omega)
  conv => arg 2; whnf
  refine wp_region_list ?_
  dsimp only
  refine tn (d := 396) (v := ?_) sz ?_ ?_
  rotate_left 1
  · (intro ρ hρ; have r17 := (hρ _).trans e17; simp [go_sem, r17] <;> with_reducible rfl)
  intro a N; have sz := N.s sz; have df := N.d df; have e0 := N.o e0; have e1 := N.o e1; have e17 := N.o e17; have e396 := N.new
  refine tn (d := 397) (v := ?_) sz ?_ ?_
  rotate_left 1
  · (intro ρ hρ; have rc : ∀ v, ρ (.const v) = v := fun v => hρ _; have r396 := (hρ _).trans e396; simp [go_sem, rc, r396, hwr] <;> with_reducible rfl)
  intro a N; have sz := N.s sz; have df := N.d df; have e0 := N.o e0; have e1 := N.o e1; have e17 := N.o e17; have e397 := N.new
  refine tn (d := 17) (v := ?_) sz ?_ ?_
  rotate_left 1
  · (intro ρ hρ; have r397 := (hρ _).trans e397; simp [go_sem, r397] <;> with_reducible rfl)
  intro a N; have sz := N.s sz; have df := N.d df; have e0 := N.o e0; have e1 := N.o e1; have e17 := N.new
  exact h _ ⟨sz, df, e0, e1⟩ e17

theorem reL_ret {g o g' o' : Nat} {a : Act} {w : World} {Q : Exit → Act → World → Prop} (ha : FrE (.pointer (some ⟨g, o, none⟩)) (.pointer (some ⟨g', o', none⟩)) a) (h : ∀ a', FrE (.pointer (some ⟨g, o, none⟩)) (.pointer (some ⟨g', o', none⟩)) a' → a'.eval (.tmp 4) = .bool false → Q .normal a' w) : (rgEq 34).wp Try.prog Q a w := by
  obtain ⟨sz, df, e0, e1⟩ := ha
  conv => arg 2; whnf
  refine wp_region_list ?_
  dsimp only
  refine tn (d := 4) (v := ?_) sz ?_ ?_
  rotate_left 1
  · (intro ρ hρ; have rc : ∀ v, ρ (.const v) = v := fun v => hρ _; simp [go_sem, rc] <;> with_reducible rfl)
  intro a N; have sz := N.s sz; have df := N.d df; have e0 := N.o e0; have e1 := N.o e1; have e4 := N.new
  exact h _ ⟨sz, df, e0, e1⟩ e4

theorem reL_asg {g o g' o' : Nat} {a : Act} {w : World} {Q : Exit → Act → World → Prop} {k n d1 d2 g1 o1 g2 o2 : Nat} {f0 : Int} {f1 : Int} {f2 : ByteArray} {f3 : Int} {f4 : Int} {f5 : ByteArray} {f6 : Int} {r0 : Int} {r1 : Int} {r2 : ByteArray} {r3 : Int} {r4 : Int} {r5 : ByteArray} {r6 : Int} (hQ : PanicOnly Q) (ha : FrE (.pointer (some ⟨g, o, none⟩)) (.pointer (some ⟨g', o', none⟩)) a) (e17 : a.eval (.tmp 17) = .int .i64 (k : Int)) (h1 : k < n) (h2 : k < n)
    (HP : Hid (∀ w', Keep (fun _ => False) w w' → w'.cell? ⟨g, o + 7, none⟩ = some (.slice (some ⟨g1, o1, none⟩) n d1) ∧ w'.cell? ⟨g', o' + 7, none⟩ = some (.slice (some ⟨g2, o2, none⟩) n d2) ∧ w'.rangeAt g1 (o1 + k * 7) [.int .i64 f0, .int .i64 f1, .string f2, .int .i64 f3, .int .i64 f4, .string f5, .int .i64 f6] ∧ w'.rangeAt g2 (o2 + k * 7) [.int .i64 r0, .int .i64 r1, .string r2, .int .i64 r3, .int .i64 r4, .string r5, .int .i64 r6]))
    (h : ∀ a' w' h1 h2, FrE (.pointer (some ⟨g, o, none⟩)) (.pointer (some ⟨g', o', none⟩)) a' → a'.eval (.tmp 17) = .int .i64 (k : Int) → a'.eval (.tmp 18) = .pointer (some ⟨h1, 0, none⟩) → a'.eval (.tmp 19) = .pointer (some ⟨h2, 0, none⟩) → w'.heap[h1]? = some (.cells #[.int .i64 f0, .int .i64 f1, .string f2, .int .i64 f3, .int .i64 f4, .string f5, .int .i64 f6] 67 (0, 0)) → w'.heap[h2]? = some (.cells #[.int .i64 r0, .int .i64 r1, .string r2, .int .i64 r3, .int .i64 r4, .string r5, .int .i64 r6] 67 (0, 0)) → Keep (fun _ => False) w w' → Q .normal a' w') : (rgEq 32).wp Try.prog Q a w := by
  obtain ⟨sz, df, e0, e1⟩ := ha
  obtain ⟨Z, HZ, hZ⟩ := zLot
  conv => arg 2; whnf
  refine wp_region_z (fun w' => Keep (fun _ => False) w w') [] (by kernel_rfl) ?_
  have HS : Hid ((fun w' => Keep (fun _ => False) w w') w.drew) := Lib.hid ((Keep.refl (fun _ => False) w).drew)
  refine wz_take (i := 0) (d := 398) (v := ?_) rfl rfl (by rw [sz]; decide) (wanted_none rfl _) (by kernel_rfl) (by kernel_rfl) (by kernel_rfl) (fun c a w h => hQ c _ _ _ w h) (by kernel_rfl) HS.out ?_ ?_
  rotate_left 1
  · (intro w9 hS9 ρ hρ; have r0 := (hρ _).trans e0; simp [go_sem, r0] <;> with_reducible rfl)
  intro a N; have sz := N.s sz; have df := N.d df; have e0 := N.o e0; have e1 := N.o e1; have e17 := N.o e17; have e398 := N.new
  refine wz_take (i := 1) (d := 399) (v := ?_) rfl rfl (by rw [sz]; decide) (wanted_none rfl _) (by kernel_rfl) (by kernel_rfl) (by kernel_rfl) (fun c a w h => hQ c _ _ _ w h) (by kernel_rfl) HS.out ?_ ?_
  rotate_left 1
  · (intro w9 hS9 ρ hρ; have r398 := (hρ _).trans e398; simp [go_sem, r398] <;> with_reducible rfl)
  intro a N; have sz := N.s sz; have df := N.d df; have e0 := N.o e0; have e1 := N.o e1; have e17 := N.o e17; have e399 := N.new
  refine wz_take (i := 2) (d := 400) (v := ?_) rfl rfl (by rw [sz]; decide) (wanted_none rfl _) (by kernel_rfl) (by kernel_rfl) (by kernel_rfl) (fun c a w h => hQ c _ _ _ w h) (by kernel_rfl) HS.out ?_ ?_
  rotate_left 1
  · (intro w9 hS9 ρ hρ; have r399 := (hρ _).trans e399; simp [go_sem, r399] <;> with_reducible rfl)
  intro a N; have sz := N.s sz; have df := N.d df; have e0 := N.o e0; have e1 := N.o e1; have e17 := N.o e17; have e400 := N.new
  refine wz_take (i := 3) (d := 401) (v := ?_) rfl rfl (by rw [sz]; decide) (wanted_none rfl _) (by kernel_rfl) (by kernel_rfl) (by kernel_rfl) (fun c a w h => hQ c _ _ _ w h) (by kernel_rfl) HS.out ?_ ?_
  rotate_left 1
  · (intro w9 hS9 ρ hρ; have c := (HP.out _ hS9).1; have r400 := (hρ _).trans e400; simp [go_sem, r400, c] <;> with_reducible rfl)
  intro a N; have sz := N.s sz; have df := N.d df; have e0 := N.o e0; have e1 := N.o e1; have e17 := N.o e17; have e401 := N.new
  refine wz_take (i := 4) (d := 402) (v := ?_) rfl rfl (by rw [sz]; decide) (wanted_none rfl _) (by kernel_rfl) (by kernel_rfl) (by kernel_rfl) (fun c a w h => hQ c _ _ _ w h) (by kernel_rfl) HS.out ?_ ?_
  rotate_left 1
  · (intro w9 hS9 ρ hρ; have r17 := (hρ _).trans e17; simp [go_sem, r17] <;> with_reducible rfl)
  intro a N; have sz := N.s sz; have df := N.d df; have e0 := N.o e0; have e1 := N.o e1; have e17 := N.o e17; have e401 := N.o e401; have e402 := N.new
  refine wz_take (i := 5) (d := 403) (v := ?_) rfl rfl (by rw [sz]; decide) (wanted_none rfl _) (by kernel_rfl) (by kernel_rfl) (by kernel_rfl) (fun c a w h => hQ c _ _ _ w h) (by kernel_rfl) HS.out ?_ ?_
  rotate_left 1
  · (intro w9 hS9 ρ hρ; have r401 := (hρ _).trans e401; have r402 := (hρ _).trans e402; simp [go_sem, r401, r402, h1] <;> with_reducible rfl)
  intro a N; have sz := N.s sz; have df := N.d df; have e0 := N.o e0; have e1 := N.o e1; have e17 := N.o e17; have e403 := N.new
  refine wz_take (i := 6) (d := 404) (v := ?_) rfl rfl (by rw [sz]; decide) (wanted_none rfl _) (by kernel_rfl) (by kernel_rfl) (by kernel_rfl) (fun c a w h => hQ c _ _ _ w h) (by kernel_rfl) HS.out ?_ ?_
  rotate_left 1
  · (intro w9 hS9 ρ hρ; have hc := (HP.out _ hS9).2.2.1; have c0 : w9.cell? ⟨g1, o1 + k * 7, none⟩ = some (.int .i64 f0) := (by simpa using hc 0 _ rfl); have c1 : w9.cell? ⟨g1, o1 + k * 7 + 1, none⟩ = some (.int .i64 f1) := (by simpa using hc 1 _ rfl); have c2 : w9.cell? ⟨g1, o1 + k * 7 + 2, none⟩ = some (.string f2) := (by simpa using hc 2 _ rfl); have c3 : w9.cell? ⟨g1, o1 + k * 7 + 3, none⟩ = some (.int .i64 f3) := (by simpa using hc 3 _ rfl); have c4 : w9.cell? ⟨g1, o1 + k * 7 + 4, none⟩ = some (.int .i64 f4) := (by simpa using hc 4 _ rfl); have c5 : w9.cell? ⟨g1, o1 + k * 7 + 5, none⟩ = some (.string f5) := (by simpa using hc 5 _ rfl); have c6 : w9.cell? ⟨g1, o1 + k * 7 + 6, none⟩ = some (.int .i64 f6) := (by simpa using hc 6 _ rfl); have r403 := (hρ _).trans e403; simp [go_sem, r403, c0, c1, c2, c3, c4, c5, c6] <;> with_reducible rfl)
  intro a N; have sz := N.s sz; have df := N.d df; have e0 := N.o e0; have e1 := N.o e1; have e17 := N.o e17; have e404 := N.new
  refine wz_take (i := 7) (d := 405) (v := ?_) rfl rfl (by rw [sz]; decide) (wanted_none rfl _) (by kernel_rfl) (by kernel_rfl) (by kernel_rfl) (fun c a w h => hQ c _ _ _ w h) (by kernel_rfl) HS.out ?_ ?_
  rotate_left 1
  · (intro w9 hS9 ρ hρ; have r1 := (hρ _).trans e1; simp [go_sem, r1] <;> with_reducible rfl)
  intro a N; have sz := N.s sz; have df := N.d df; have e0 := N.o e0; have e1 := N.o e1; have e17 := N.o e17; have e404 := N.o e404; have e405 := N.new
  refine wz_take (i := 8) (d := 406) (v := ?_) rfl rfl (by rw [sz]; decide) (wanted_none rfl _) (by kernel_rfl) (by kernel_rfl) (by kernel_rfl) (fun c a w h => hQ c _ _ _ w h) (by kernel_rfl) HS.out ?_ ?_
  rotate_left 1
  · (intro w9 hS9 ρ hρ; have r405 := (hρ _).trans e405; simp [go_sem, r405] <;> with_reducible rfl)
  intro a N; have sz := N.s sz; have df := N.d df; have e0 := N.o e0; have e1 := N.o e1; have e17 := N.o e17; have e404 := N.o e404; have e406 := N.new
  refine wz_take (i := 9) (d := 407) (v := ?_) rfl rfl (by rw [sz]; decide) (wanted_none rfl _) (by kernel_rfl) (by kernel_rfl) (by kernel_rfl) (fun c a w h => hQ c _ _ _ w h) (by kernel_rfl) HS.out ?_ ?_
  rotate_left 1
  · (intro w9 hS9 ρ hρ; have r406 := (hρ _).trans e406; simp [go_sem, r406] <;> with_reducible rfl)
  intro a N; have sz := N.s sz; have df := N.d df; have e0 := N.o e0; have e1 := N.o e1; have e17 := N.o e17; have e404 := N.o e404; have e407 := N.new
  refine wz_take (i := 10) (d := 408) (v := ?_) rfl rfl (by rw [sz]; decide) (wanted_none rfl _) (by kernel_rfl) (by kernel_rfl) (by kernel_rfl) (fun c a w h => hQ c _ _ _ w h) (by kernel_rfl) HS.out ?_ ?_
  rotate_left 1
  · (intro w9 hS9 ρ hρ; have c := (HP.out _ hS9).2.1; have r407 := (hρ _).trans e407; simp [go_sem, r407, c] <;> with_reducible rfl)
  intro a N; have sz := N.s sz; have df := N.d df; have e0 := N.o e0; have e1 := N.o e1; have e17 := N.o e17; have e404 := N.o e404; have e408 := N.new
  refine wz_take (i := 11) (d := 409) (v := ?_) rfl rfl (by rw [sz]; decide) (wanted_none rfl _) (by kernel_rfl) (by kernel_rfl) (by kernel_rfl) (fun c a w h => hQ c _ _ _ w h) (by kernel_rfl) HS.out ?_ ?_
  rotate_left 1
  · (intro w9 hS9 ρ hρ; have r17 := (hρ _).trans e17; simp [go_sem, r17] <;> with_reducible rfl)
  intro a N; have sz := N.s sz; have df := N.d df; have e0 := N.o e0; have e1 := N.o e1; have e17 := N.o e17; have e404 := N.o e404; have e408 := N.o e408; have e409 := N.new
  refine wz_take (i := 12) (d := 410) (v := ?_) rfl rfl (by rw [sz]; decide) (wanted_none rfl _) (by kernel_rfl) (by kernel_rfl) (by kernel_rfl) (fun c a w h => hQ c _ _ _ w h) (by kernel_rfl) HS.out ?_ ?_
  rotate_left 1
  · (intro w9 hS9 ρ hρ; have r408 := (hρ _).trans e408; have r409 := (hρ _).trans e409; simp [go_sem, r408, r409, h2] <;> with_reducible rfl)
  intro a N; have sz := N.s sz; have df := N.d df; have e0 := N.o e0; have e1 := N.o e1; have e17 := N.o e17; have e404 := N.o e404; have e410 := N.new
  refine wz_take (i := 13) (d := 411) (v := ?_) rfl rfl (by rw [sz]; decide) (wanted_none rfl _) (by kernel_rfl) (by kernel_rfl) (by kernel_rfl) (fun c a w h => hQ c _ _ _ w h) (by kernel_rfl) HS.out ?_ ?_
  rotate_left 1
  · (intro w9 hS9 ρ hρ; have hc := (HP.out _ hS9).2.2.2; have c0 : w9.cell? ⟨g2, o2 + k * 7, none⟩ = some (.int .i64 r0) := (by simpa using hc 0 _ rfl); have c1 : w9.cell? ⟨g2, o2 + k * 7 + 1, none⟩ = some (.int .i64 r1) := (by simpa using hc 1 _ rfl); have c2 : w9.cell? ⟨g2, o2 + k * 7 + 2, none⟩ = some (.string r2) := (by simpa using hc 2 _ rfl); have c3 : w9.cell? ⟨g2, o2 + k * 7 + 3, none⟩ = some (.int .i64 r3) := (by simpa using hc 3 _ rfl); have c4 : w9.cell? ⟨g2, o2 + k * 7 + 4, none⟩ = some (.int .i64 r4) := (by simpa using hc 4 _ rfl); have c5 : w9.cell? ⟨g2, o2 + k * 7 + 5, none⟩ = some (.string r5) := (by simpa using hc 5 _ rfl); have c6 : w9.cell? ⟨g2, o2 + k * 7 + 6, none⟩ = some (.int .i64 r6) := (by simpa using hc 6 _ rfl); have r410 := (hρ _).trans e410; simp [go_sem, r410, c0, c1, c2, c3, c4, c5, c6] <;> with_reducible rfl)
  intro a N; have sz := N.s sz; have df := N.d df; have e0 := N.o e0; have e1 := N.o e1; have e17 := N.o e17; have e404 := N.o e404; have e411 := N.new
  refine wpAnyZ_vars (i := 14) (j := 15) (m := 16) (n := 17) (d1 := 18) (d2 := 19) (t := 67) (Z := Z) (C1 := #[.int .i64 f0, .int .i64 f1, .string f2, .int .i64 f3, .int .i64 f4, .string f5, .int .i64 f6]) (C2 := #[.int .i64 r0, .int .i64 r1, .string r2, .int .i64 r3, .int .i64 r4, .string r5, .int .i64 r6]) (x1 := .tmp 404) (x2 := .tmp 411) rfl rfl rfl rfl rfl rfl rfl rfl rfl rfl rfl rfl rfl rfl rfl rfl (by decide) (by kernel_rfl) (by kernel_rfl) (by kernel_rfl) (by kernel_rfl) (by kernel_rfl) (by kernel_rfl) (by decide) HZ.out (by rw [hZ]; kernel_rfl) hZ hZ (by simp [Value.oneCell']) (by simp [Value.oneCell']) (by rw [sz]; decide) (by rw [sz]; decide)
    (fun p q => by rw [eval_put_ne (by decide), eval_put_ne (by decide)]; exact e404) (fun p q => by rw [eval_put_ne (by decide), eval_put_ne (by decide)]; exact e411) (fun w' kk => HS.out.trans kk (fun _ h => h.elim)) ?_
  intro h1 h2 w9 t1 t2 kk
  have N1 := Nxt.put (a := a) (v := .pointer (some ⟨h1, 0, none⟩)) (show 18 < a.tmps.size by rw [sz]; decide)
  have N2 := Nxt.put (a := a.put (some 18) (.pointer (some ⟨h1, 0, none⟩))) (v := .pointer (some ⟨h2, 0, none⟩)) (show 19 < (a.put (some 18) _).tmps.size by rw [size_put, sz]; decide)
  exact h _ w9 h1 h2 ⟨N2.size.trans (N1.size.trans sz), N2.defers.trans (N1.defers.trans df), (N2.old 0 (by decide)).trans ((N1.old 0 (by decide)).trans e0), (N2.old 1 (by decide)).trans ((N1.old 1 (by decide)).trans e1)⟩
    ((N2.old 17 (by decide)).trans ((N1.old 17 (by decide)).trans e17)) ((N2.old 18 (by decide)).trans N1.new) N2.new t1 t2 (HS.out.trans kk (fun _ h => h.elim))

set_option maxHeartbeats 4000000 in
theorem reL_cmp {g o g' o' : Nat} {a : Act} {w : World} {Q : Exit → Act → World → Prop} {k h1 h2 : Nat} {f0 : Int} {f1 : Int} {f2 : ByteArray} {f3 : Int} {f4 : Int} {f5 : ByteArray} {f6 : Int} {r0 : Int} {r1 : Int} {r2 : ByteArray} {r3 : Int} {r4 : Int} {r5 : ByteArray} {r6 : Int} (ha : FrE (.pointer (some ⟨g, o, none⟩)) (.pointer (some ⟨g', o', none⟩)) a) (e17 : a.eval (.tmp 17) = .int .i64 (k : Int)) (e18 : a.eval (.tmp 18) = .pointer (some ⟨h1, 0, none⟩)) (e19 : a.eval (.tmp 19) = .pointer (some ⟨h2, 0, none⟩)) (t1 : w.heap[h1]? = some (.cells #[.int .i64 f0, .int .i64 f1, .string f2, .int .i64 f3, .int .i64 f4, .string f5, .int .i64 f6] 67 (0, 0))) (t2 : w.heap[h2]? = some (.cells #[.int .i64 r0, .int .i64 r1, .string r2, .int .i64 r3, .int .i64 r4, .string r5, .int .i64 r6] 67 (0, 0)))
    (h : ∀ a' w' b, FrE (.pointer (some ⟨g, o, none⟩)) (.pointer (some ⟨g', o', none⟩)) a' → a'.eval (.tmp 17) = .int .i64 (k : Int) → a'.eval (.tmp 458) = .bool b → (b = false ↔ (((f0, f1, f2, f3, f4, f5, f6) : Int × Int × ByteArray × Int × Int × ByteArray × Int) = (r0, r1, r2, r3, r4, r5, r6))) → Keep (fun _ => False) w w' → Q .normal a' w') : (rgEq 33).wp Try.prog Q a w := by
  obtain ⟨sz, df, e0, e1⟩ := ha
  have c0 : _ = some (Value.int .i64 f0) := (cell_of_row _ _ 0 _ _ _ t1).trans rfl
  have d0 : _ = some (Value.int .i64 r0) := (cell_of_row _ _ 0 _ _ _ t2).trans rfl
  have c1 : _ = some (Value.int .i64 f1) := (cell_of_row _ _ 1 _ _ _ t1).trans rfl
  have d1 : _ = some (Value.int .i64 r1) := (cell_of_row _ _ 1 _ _ _ t2).trans rfl
  have c2 : _ = some (Value.string f2) := (cell_of_row _ _ 2 _ _ _ t1).trans rfl
  have d2 : _ = some (Value.string r2) := (cell_of_row _ _ 2 _ _ _ t2).trans rfl
  have c3 : _ = some (Value.int .i64 f3) := (cell_of_row _ _ 3 _ _ _ t1).trans rfl
  have d3 : _ = some (Value.int .i64 r3) := (cell_of_row _ _ 3 _ _ _ t2).trans rfl
  have c4 : _ = some (Value.int .i64 f4) := (cell_of_row _ _ 4 _ _ _ t1).trans rfl
  have d4 : _ = some (Value.int .i64 r4) := (cell_of_row _ _ 4 _ _ _ t2).trans rfl
  have c5 : _ = some (Value.string f5) := (cell_of_row _ _ 5 _ _ _ t1).trans rfl
  have d5 : _ = some (Value.string r5) := (cell_of_row _ _ 5 _ _ _ t2).trans rfl
  have c6 : _ = some (Value.int .i64 f6) := (cell_of_row _ _ 6 _ _ _ t1).trans rfl
  have d6 : _ = some (Value.int .i64 r6) := (cell_of_row _ _ 6 _ _ _ t2).trans rfl
  clear t1 t2
  conv => arg 2; whnf
  refine wp_region_list ?_
  dsimp only
  refine tn (d := 412) (v := ?_) sz ?_ ?_
  rotate_left 1
  · (intro ρ hρ; have r18 := (hρ _).trans e18; simp [go_sem, r18] <;> with_reducible rfl)
  intro a N; have sz := N.s sz; have df := N.d df; have e0 := N.o e0; have e1 := N.o e1; have e17 := N.o e17; have e18 := N.o e18; have e19 := N.o e19; have e412 := N.new
  refine tn (d := 413) (v := ?_) sz ?_ ?_
  rotate_left 1
  · (intro ρ hρ; have r412 := (hρ _).trans e412; simp [go_sem, r412, c0] <;> with_reducible rfl)
  intro a N; have sz := N.s sz; have df := N.d df; have e0 := N.o e0; have e1 := N.o e1; have e17 := N.o e17; have e18 := N.o e18; have e19 := N.o e19; have e413 := N.new
  refine tn (d := 414) (v := ?_) sz ?_ ?_
  rotate_left 1
  · (intro ρ hρ; have r19 := (hρ _).trans e19; simp [go_sem, r19] <;> with_reducible rfl)
  intro a N; have sz := N.s sz; have df := N.d df; have e0 := N.o e0; have e1 := N.o e1; have e17 := N.o e17; have e18 := N.o e18; have e19 := N.o e19; have e413 := N.o e413; have e414 := N.new
  refine tn (d := 415) (v := ?_) sz ?_ ?_
  rotate_left 1
  · (intro ρ hρ; have r414 := (hρ _).trans e414; simp [go_sem, r414, d0] <;> with_reducible rfl)
  intro a N; have sz := N.s sz; have df := N.d df; have e0 := N.o e0; have e1 := N.o e1; have e17 := N.o e17; have e18 := N.o e18; have e19 := N.o e19; have e413 := N.o e413; have e415 := N.new
  by_cases hf0 : f0 = r0
  rotate_left 1
  · have hq : (f0 != r0) = true := by simpa using hf0
    refine tn (d := 416) (v := ?_) sz ?_ ?_
    rotate_left 1
    · (intro ρ hρ; have r413 := (hρ _).trans e413; have r415 := (hρ _).trans e415; simp [go_sem, r413, r415, hq] <;> with_reducible rfl)
    intro a N; have sz := N.s sz; have df := N.d df; have e0 := N.o e0; have e1 := N.o e1; have e17 := N.o e17; have e18 := N.o e18; have e19 := N.o e19; have e416 := N.new
    refine tn (d := 417) (v := ?_) sz ?_ ?_
    rotate_left 1
    · (intro ρ hρ; have r416 := (hρ _).trans e416; simp [go_sem, r416] <;> with_reducible rfl)
    intro a N; have sz := N.s sz; have df := N.d df; have e0 := N.o e0; have e1 := N.o e1; have e17 := N.o e17; have e18 := N.o e18; have e19 := N.o e19; have e417 := N.new
    refine sk (d := 418) sz (wanted_is rfl rfl e417 rfl) ?_
    intro a N; have sz := N.s sz; have df := N.d df; have e0 := N.o e0; have e1 := N.o e1; have e17 := N.o e17; have e18 := N.o e18; have e19 := N.o e19; have e417 := N.o e417; have e418 := N.new
    refine sk (d := 419) sz (wanted_is rfl rfl e417 rfl) ?_
    intro a N; have sz := N.s sz; have df := N.d df; have e0 := N.o e0; have e1 := N.o e1; have e17 := N.o e17; have e18 := N.o e18; have e19 := N.o e19; have e417 := N.o e417; have e419 := N.new
    refine sk (d := 420) sz (wanted_is rfl rfl e417 rfl) ?_
    intro a N; have sz := N.s sz; have df := N.d df; have e0 := N.o e0; have e1 := N.o e1; have e17 := N.o e17; have e18 := N.o e18; have e19 := N.o e19; have e417 := N.o e417; have e419 := N.o e419; have e420 := N.new
    refine sk (d := 421) sz (wanted_is rfl rfl e417 rfl) ?_
    intro a N; have sz := N.s sz; have df := N.d df; have e0 := N.o e0; have e1 := N.o e1; have e17 := N.o e17; have e18 := N.o e18; have e19 := N.o e19; have e417 := N.o e417; have e419 := N.o e419; have e421 := N.new
    refine sk (d := 422) sz (wanted_is rfl rfl e417 rfl) ?_
    intro a N; have sz := N.s sz; have df := N.d df; have e0 := N.o e0; have e1 := N.o e1; have e17 := N.o e17; have e18 := N.o e18; have e19 := N.o e19; have e417 := N.o e417; have e422 := N.new
    refine tn (d := 423) (v := ?_) sz ?_ ?_
    rotate_left 1
    · (intro ρ hρ; have rc : ∀ v, ρ (.const v) = v := fun v => hρ _; have r417 := (hρ _).trans e417; have r422 := (hρ _).trans e422; simp [go_sem, rc, r417, r422] <;> with_reducible rfl)
    intro a N; have sz := N.s sz; have df := N.d df; have e0 := N.o e0; have e1 := N.o e1; have e17 := N.o e17; have e18 := N.o e18; have e19 := N.o e19; have e423 := N.new
    refine tn (d := 424) (v := ?_) sz ?_ ?_
    rotate_left 1
    · (intro ρ hρ; have r423 := (hρ _).trans e423; simp [go_sem, r423] <;> with_reducible rfl)
    intro a N; have sz := N.s sz; have df := N.d df; have e0 := N.o e0; have e1 := N.o e1; have e17 := N.o e17; have e18 := N.o e18; have e19 := N.o e19; have e424 := N.new
    refine sk (d := 425) sz (wanted_is rfl rfl e424 rfl) ?_
    intro a N; have sz := N.s sz; have df := N.d df; have e0 := N.o e0; have e1 := N.o e1; have e17 := N.o e17; have e18 := N.o e18; have e19 := N.o e19; have e424 := N.o e424; have e425 := N.new
    refine sk (d := 426) sz (wanted_is rfl rfl e424 rfl) ?_
    intro a N; have sz := N.s sz; have df := N.d df; have e0 := N.o e0; have e1 := N.o e1; have e17 := N.o e17; have e18 := N.o e18; have e19 := N.o e19; have e424 := N.o e424; have e426 := N.new
    refine sk (d := 427) sz (wanted_is rfl rfl e424 rfl) ?_
    intro a N; have sz := N.s sz; have df := N.d df; have e0 := N.o e0; have e1 := N.o e1; have e17 := N.o e17; have e18 := N.o e18; have e19 := N.o e19; have e424 := N.o e424; have e426 := N.o e426; have e427 := N.new
    refine sk (d := 428) sz (wanted_is rfl rfl e424 rfl) ?_
    intro a N; have sz := N.s sz; have df := N.d df; have e0 := N.o e0; have e1 := N.o e1; have e17 := N.o e17; have e18 := N.o e18; have e19 := N.o e19; have e424 := N.o e424; have e426 := N.o e426; have e428 := N.new
    refine sk (d := 429) sz (wanted_is rfl rfl e424 rfl) ?_
    intro a N; have sz := N.s sz; have df := N.d df; have e0 := N.o e0; have e1 := N.o e1; have e17 := N.o e17; have e18 := N.o e18; have e19 := N.o e19; have e424 := N.o e424; have e429 := N.new
    refine tn (d := 430) (v := ?_) sz ?_ ?_
    rotate_left 1
    · (intro ρ hρ; have rc : ∀ v, ρ (.const v) = v := fun v => hρ _; have r424 := (hρ _).trans e424; have r429 := (hρ _).trans e429; simp [go_sem, rc, r424, r429] <;> with_reducible rfl)
    intro a N; have sz := N.s sz; have df := N.d df; have e0 := N.o e0; have e1 := N.o e1; have e17 := N.o e17; have e18 := N.o e18; have e19 := N.o e19; have e430 := N.new
    refine tn (d := 431) (v := ?_) sz ?_ ?_
    rotate_left 1
    · (intro ρ hρ; have r430 := (hρ _).trans e430; simp [go_sem, r430] <;> with_reducible rfl)
    intro a N; have sz := N.s sz; have df := N.d df; have e0 := N.o e0; have e1 := N.o e1; have e17 := N.o e17; have e18 := N.o e18; have e19 := N.o e19; have e431 := N.new
    refine sk (d := 432) sz (wanted_is rfl rfl e431 rfl) ?_
    intro a N; have sz := N.s sz; have df := N.d df; have e0 := N.o e0; have e1 := N.o e1; have e17 := N.o e17; have e18 := N.o e18; have e19 := N.o e19; have e431 := N.o e431; have e432 := N.new
    refine sk (d := 433) sz (wanted_is rfl rfl e431 rfl) ?_
    intro a N; have sz := N.s sz; have df := N.d df; have e0 := N.o e0; have e1 := N.o e1; have e17 := N.o e17; have e18 := N.o e18; have e19 := N.o e19; have e431 := N.o e431; have e433 := N.new
    refine sk (d := 434) sz (wanted_is rfl rfl e431 rfl) ?_
    intro a N; have sz := N.s sz; have df := N.d df; have e0 := N.o e0; have e1 := N.o e1; have e17 := N.o e17; have e18 := N.o e18; have e19 := N.o e19; have e431 := N.o e431; have e433 := N.o e433; have e434 := N.new
    refine sk (d := 435) sz (wanted_is rfl rfl e431 rfl) ?_
    intro a N; have sz := N.s sz; have df := N.d df; have e0 := N.o e0; have e1 := N.o e1; have e17 := N.o e17; have e18 := N.o e18; have e19 := N.o e19; have e431 := N.o e431; have e433 := N.o e433; have e435 := N.new
    refine sk (d := 436) sz (wanted_is rfl rfl e431 rfl) ?_
    intro a N; have sz := N.s sz; have df := N.d df; have e0 := N.o e0; have e1 := N.o e1; have e17 := N.o e17; have e18 := N.o e18; have e19 := N.o e19; have e431 := N.o e431; have e436 := N.new
    refine tn (d := 437) (v := ?_) sz ?_ ?_
    rotate_left 1
    · (intro ρ hρ; have rc : ∀ v, ρ (.const v) = v := fun v => hρ _; have r431 := (hρ _).trans e431; have r436 := (hρ _).trans e436; simp [go_sem, rc, r431, r436] <;> with_reducible rfl)
    intro a N; have sz := N.s sz; have df := N.d df; have e0 := N.o e0; have e1 := N.o e1; have e17 := N.o e17; have e18 := N.o e18; have e19 := N.o e19; have e437 := N.new
    refine tn (d := 438) (v := ?_) sz ?_ ?_
    rotate_left 1
    · (intro ρ hρ; have r437 := (hρ _).trans e437; simp [go_sem, r437] <;> with_reducible rfl)
    intro a N; have sz := N.s sz; have df := N.d df; have e0 := N.o e0; have e1 := N.o e1; have e17 := N.o e17; have e18 := N.o e18; have e19 := N.o e19; have e438 := N.new
    refine sk (d := 439) sz (wanted_is rfl rfl e438 rfl) ?_
    intro a N; have sz := N.s sz; have df := N.d df; have e0 := N.o e0; have e1 := N.o e1; have e17 := N.o e17; have e18 := N.o e18; have e19 := N.o e19; have e438 := N.o e438; have e439 := N.new
    refine sk (d := 440) sz (wanted_is rfl rfl e438 rfl) ?_
    intro a N; have sz := N.s sz; have df := N.d df; have e0 := N.o e0; have e1 := N.o e1; have e17 := N.o e17; have e18 := N.o e18; have e19 := N.o e19; have e438 := N.o e438; have e440 := N.new
    refine sk (d := 441) sz (wanted_is rfl rfl e438 rfl) ?_
    intro a N; have sz := N.s sz; have df := N.d df; have e0 := N.o e0; have e1 := N.o e1; have e17 := N.o e17; have e18 := N.o e18; have e19 := N.o e19; have e438 := N.o e438; have e440 := N.o e440; have e441 := N.new
    refine sk (d := 442) sz (wanted_is rfl rfl e438 rfl) ?_
    intro a N; have sz := N.s sz; have df := N.d df; have e0 := N.o e0; have e1 := N.o e1; have e17 := N.o e17; have e18 := N.o e18; have e19 := N.o e19; have e438 := N.o e438; have e440 := N.o e440; have e442 := N.new
    refine sk (d := 443) sz (wanted_is rfl rfl e438 rfl) ?_
    intro a N; have sz := N.s sz; have df := N.d df; have e0 := N.o e0; have e1 := N.o e1; have e17 := N.o e17; have e18 := N.o e18; have e19 := N.o e19; have e438 := N.o e438; have e443 := N.new
    refine tn (d := 444) (v := ?_) sz ?_ ?_
    rotate_left 1
    · (intro ρ hρ; have rc : ∀ v, ρ (.const v) = v := fun v => hρ _; have r438 := (hρ _).trans e438; have r443 := (hρ _).trans e443; simp [go_sem, rc, r438, r443] <;> with_reducible rfl)
    intro a N; have sz := N.s sz; have df := N.d df; have e0 := N.o e0; have e1 := N.o e1; have e17 := N.o e17; have e18 := N.o e18; have e19 := N.o e19; have e444 := N.new
    refine tn (d := 445) (v := ?_) sz ?_ ?_
    rotate_left 1
    · (intro ρ hρ; have r444 := (hρ _).trans e444; simp [go_sem, r444] <;> with_reducible rfl)
    intro a N; have sz := N.s sz; have df := N.d df; have e0 := N.o e0; have e1 := N.o e1; have e17 := N.o e17; have e18 := N.o e18; have e19 := N.o e19; have e445 := N.new
    refine sk (d := 446) sz (wanted_is rfl rfl e445 rfl) ?_
    intro a N; have sz := N.s sz; have df := N.d df; have e0 := N.o e0; have e1 := N.o e1; have e17 := N.o e17; have e18 := N.o e18; have e19 := N.o e19; have e445 := N.o e445; have e446 := N.new
    refine sk (d := 447) sz (wanted_is rfl rfl e445 rfl) ?_
    intro a N; have sz := N.s sz; have df := N.d df; have e0 := N.o e0; have e1 := N.o e1; have e17 := N.o e17; have e18 := N.o e18; have e19 := N.o e19; have e445 := N.o e445; have e447 := N.new
    refine sk (d := 448) sz (wanted_is rfl rfl e445 rfl) ?_
    intro a N; have sz := N.s sz; have df := N.d df; have e0 := N.o e0; have e1 := N.o e1; have e17 := N.o e17; have e18 := N.o e18; have e19 := N.o e19; have e445 := N.o e445; have e447 := N.o e447; have e448 := N.new
    refine sk (d := 449) sz (wanted_is rfl rfl e445 rfl) ?_
    intro a N; have sz := N.s sz; have df := N.d df; have e0 := N.o e0; have e1 := N.o e1; have e17 := N.o e17; have e18 := N.o e18; have e19 := N.o e19; have e445 := N.o e445; have e447 := N.o e447; have e449 := N.new
    refine sk (d := 450) sz (wanted_is rfl rfl e445 rfl) ?_
    intro a N; have sz := N.s sz; have df := N.d df; have e0 := N.o e0; have e1 := N.o e1; have e17 := N.o e17; have e18 := N.o e18; have e19 := N.o e19; have e445 := N.o e445; have e450 := N.new
    refine tn (d := 451) (v := ?_) sz ?_ ?_
    rotate_left 1
    · (intro ρ hρ; have rc : ∀ v, ρ (.const v) = v := fun v => hρ _; have r445 := (hρ _).trans e445; have r450 := (hρ _).trans e450; simp [go_sem, rc, r445, r450] <;> with_reducible rfl)
    intro a N; have sz := N.s sz; have df := N.d df; have e0 := N.o e0; have e1 := N.o e1; have e17 := N.o e17; have e18 := N.o e18; have e19 := N.o e19; have e451 := N.new
    refine tn (d := 452) (v := ?_) sz ?_ ?_
    rotate_left 1
    · (intro ρ hρ; have r451 := (hρ _).trans e451; simp [go_sem, r451] <;> with_reducible rfl)
    intro a N; have sz := N.s sz; have df := N.d df; have e0 := N.o e0; have e1 := N.o e1; have e17 := N.o e17; have e18 := N.o e18; have e19 := N.o e19; have e452 := N.new
    refine sk (d := 453) sz (wanted_is rfl rfl e452 rfl) ?_
    intro a N; have sz := N.s sz; have df := N.d df; have e0 := N.o e0; have e1 := N.o e1; have e17 := N.o e17; have e19 := N.o e19; have e452 := N.o e452; have e453 := N.new
    refine sk (d := 454) sz (wanted_is rfl rfl e452 rfl) ?_
    intro a N; have sz := N.s sz; have df := N.d df; have e0 := N.o e0; have e1 := N.o e1; have e17 := N.o e17; have e19 := N.o e19; have e452 := N.o e452; have e454 := N.new
    refine sk (d := 455) sz (wanted_is rfl rfl e452 rfl) ?_
    intro a N; have sz := N.s sz; have df := N.d df; have e0 := N.o e0; have e1 := N.o e1; have e17 := N.o e17; have e452 := N.o e452; have e454 := N.o e454; have e455 := N.new
    refine sk (d := 456) sz (wanted_is rfl rfl e452 rfl) ?_
    intro a N; have sz := N.s sz; have df := N.d df; have e0 := N.o e0; have e1 := N.o e1; have e17 := N.o e17; have e452 := N.o e452; have e454 := N.o e454; have e456 := N.new
    refine sk (d := 457) sz (wanted_is rfl rfl e452 rfl) ?_
    intro a N; have sz := N.s sz; have df := N.d df; have e0 := N.o e0; have e1 := N.o e1; have e17 := N.o e17; have e452 := N.o e452; have e457 := N.new
    refine tn (d := 458) (v := ?_) sz ?_ ?_
    rotate_left 1
    · (intro ρ hρ; have rc : ∀ v, ρ (.const v) = v := fun v => hρ _; have r452 := (hρ _).trans e452; have r457 := (hρ _).trans e457; simp [go_sem, rc, r452, r457] <;> with_reducible rfl)
    intro a N; have sz := N.s sz; have df := N.d df; have e0 := N.o e0; have e1 := N.o e1; have e17 := N.o e17; have e458 := N.new
    exact h _ w true ⟨sz, df, e0, e1⟩ e17 e458 ⟨fun h => (by cases h), fun h => absurd (congrArg (fun z => z.1) h) hf0⟩ (Keep.refl _ w)
  subst hf0
  refine tn (d := 416) (v := ?_) sz ?_ ?_
  rotate_left 1
  · (intro ρ hρ; have r413 := (hρ _).trans e413; have r415 := (hρ _).trans e415; simp [go_sem, r413, r415] <;> with_reducible rfl)
  intro a N; have sz := N.s sz; have df := N.d df; have e0 := N.o e0; have e1 := N.o e1; have e17 := N.o e17; have e18 := N.o e18; have e19 := N.o e19; have e416 := N.new
  refine tn (d := 417) (v := ?_) sz ?_ ?_
  rotate_left 1
  · (intro ρ hρ; have r416 := (hρ _).trans e416; simp [go_sem, r416] <;> with_reducible rfl)
  intro a N; have sz := N.s sz; have df := N.d df; have e0 := N.o e0; have e1 := N.o e1; have e17 := N.o e17; have e18 := N.o e18; have e19 := N.o e19; have e417 := N.new
  refine tk (d := 418) (v := ?_) sz (wanted_is rfl rfl e417 rfl) ?_ ?_
  rotate_left 1
  · (intro ρ hρ; have r18 := (hρ _).trans e18; simp [go_sem, r18] <;> with_reducible rfl)
  intro a N; have sz := N.s sz; have df := N.d df; have e0 := N.o e0; have e1 := N.o e1; have e17 := N.o e17; have e18 := N.o e18; have e19 := N.o e19; have e417 := N.o e417; have e418 := N.new
  refine tk (d := 419) (v := ?_) sz (wanted_is rfl rfl e417 rfl) ?_ ?_
  rotate_left 1
  · (intro ρ hρ; have r418 := (hρ _).trans e418; simp [go_sem, r418, c1] <;> with_reducible rfl)
  intro a N; have sz := N.s sz; have df := N.d df; have e0 := N.o e0; have e1 := N.o e1; have e17 := N.o e17; have e18 := N.o e18; have e19 := N.o e19; have e417 := N.o e417; have e419 := N.new
  refine tk (d := 420) (v := ?_) sz (wanted_is rfl rfl e417 rfl) ?_ ?_
  rotate_left 1
  · (intro ρ hρ; have r19 := (hρ _).trans e19; simp [go_sem, r19] <;> with_reducible rfl)
  intro a N; have sz := N.s sz; have df := N.d df; have e0 := N.o e0; have e1 := N.o e1; have e17 := N.o e17; have e18 := N.o e18; have e19 := N.o e19; have e417 := N.o e417; have e419 := N.o e419; have e420 := N.new
  refine tk (d := 421) (v := ?_) sz (wanted_is rfl rfl e417 rfl) ?_ ?_
  rotate_left 1
  · (intro ρ hρ; have r420 := (hρ _).trans e420; simp [go_sem, r420, d1] <;> with_reducible rfl)
  intro a N; have sz := N.s sz; have df := N.d df; have e0 := N.o e0; have e1 := N.o e1; have e17 := N.o e17; have e18 := N.o e18; have e19 := N.o e19; have e417 := N.o e417; have e419 := N.o e419; have e421 := N.new
  by_cases hf1 : f1 = r1
  rotate_left 1
  · have hq : (f1 != r1) = true := by simpa using hf1
    refine tk (d := 422) (v := ?_) sz (wanted_is rfl rfl e417 rfl) ?_ ?_
    rotate_left 1
    · (intro ρ hρ; have r419 := (hρ _).trans e419; have r421 := (hρ _).trans e421; simp [go_sem, r419, r421, hq] <;> with_reducible rfl)
    intro a N; have sz := N.s sz; have df := N.d df; have e0 := N.o e0; have e1 := N.o e1; have e17 := N.o e17; have e18 := N.o e18; have e19 := N.o e19; have e417 := N.o e417; have e422 := N.new
    refine tn (d := 423) (v := ?_) sz ?_ ?_
    rotate_left 1
    · (intro ρ hρ; have rc : ∀ v, ρ (.const v) = v := fun v => hρ _; have r417 := (hρ _).trans e417; have r422 := (hρ _).trans e422; simp [go_sem, rc, r417, r422] <;> with_reducible rfl)
    intro a N; have sz := N.s sz; have df := N.d df; have e0 := N.o e0; have e1 := N.o e1; have e17 := N.o e17; have e18 := N.o e18; have e19 := N.o e19; have e423 := N.new
    refine tn (d := 424) (v := ?_) sz ?_ ?_
    rotate_left 1
    · (intro ρ hρ; have r423 := (hρ _).trans e423; simp [go_sem, r423] <;> with_reducible rfl)
    intro a N; have sz := N.s sz; have df := N.d df; have e0 := N.o e0; have e1 := N.o e1; have e17 := N.o e17; have e18 := N.o e18; have e19 := N.o e19; have e424 := N.new
    refine sk (d := 425) sz (wanted_is rfl rfl e424 rfl) ?_
    intro a N; have sz := N.s sz; have df := N.d df; have e0 := N.o e0; have e1 := N.o e1; have e17 := N.o e17; have e18 := N.o e18; have e19 := N.o e19; have e424 := N.o e424; have e425 := N.new
    refine sk (d := 426) sz (wanted_is rfl rfl e424 rfl) ?_
    intro a N; have sz := N.s sz; have df := N.d df; have e0 := N.o e0; have e1 := N.o e1; have e17 := N.o e17; have e18 := N.o e18; have e19 := N.o e19; have e424 := N.o e424; have e426 := N.new
    refine sk (d := 427) sz (wanted_is rfl rfl e424 rfl) ?_
    intro a N; have sz := N.s sz; have df := N.d df; have e0 := N.o e0; have e1 := N.o e1; have e17 := N.o e17; have e18 := N.o e18; have e19 := N.o e19; have e424 := N.o e424; have e426 := N.o e426; have e427 := N.new
    refine sk (d := 428) sz (wanted_is rfl rfl e424 rfl) ?_
    intro a N; have sz := N.s sz; have df := N.d df; have e0 := N.o e0; have e1 := N.o e1; have e17 := N.o e17; have e18 := N.o e18; have e19 := N.o e19; have e424 := N.o e424; have e426 := N.o e426; have e428 := N.new
    refine sk (d := 429) sz (wanted_is rfl rfl e424 rfl) ?_
    intro a N; have sz := N.s sz; have df := N.d df; have e0 := N.o e0; have e1 := N.o e1; have e17 := N.o e17; have e18 := N.o e18; have e19 := N.o e19; have e424 := N.o e424; have e429 := N.new
    refine tn (d := 430) (v := ?_) sz ?_ ?_
    rotate_left 1
    · (intro ρ hρ; have rc : ∀ v, ρ (.const v) = v := fun v => hρ _; have r424 := (hρ _).trans e424; have r429 := (hρ _).trans e429; simp [go_sem, rc, r424, r429] <;> with_reducible rfl)
    intro a N; have sz := N.s sz; have df := N.d df; have e0 := N.o e0; have e1 := N.o e1; have e17 := N.o e17; have e18 := N.o e18; have e19 := N.o e19; have e430 := N.new
    refine tn (d := 431) (v := ?_) sz ?_ ?_
    rotate_left 1
    · (intro ρ hρ; have r430 := (hρ _).trans e430; simp [go_sem, r430] <;> with_reducible rfl)
    intro a N; have sz := N.s sz; have df := N.d df; have e0 := N.o e0; have e1 := N.o e1; have e17 := N.o e17; have e18 := N.o e18; have e19 := N.o e19; have e431 := N.new
    refine sk (d := 432) sz (wanted_is rfl rfl e431 rfl) ?_
    intro a N; have sz := N.s sz; have df := N.d df; have e0 := N.o e0; have e1 := N.o e1; have e17 := N.o e17; have e18 := N.o e18; have e19 := N.o e19; have e431 := N.o e431; have e432 := N.new
    refine sk (d := 433) sz (wanted_is rfl rfl e431 rfl) ?_
    intro a N; have sz := N.s sz; have df := N.d df; have e0 := N.o e0; have e1 := N.o e1; have e17 := N.o e17; have e18 := N.o e18; have e19 := N.o e19; have e431 := N.o e431; have e433 := N.new
    refine sk (d := 434) sz (wanted_is rfl rfl e431 rfl) ?_
    intro a N; have sz := N.s sz; have df := N.d df; have e0 := N.o e0; have e1 := N.o e1; have e17 := N.o e17; have e18 := N.o e18; have e19 := N.o e19; have e431 := N.o e431; have e433 := N.o e433; have e434 := N.new
    refine sk (d := 435) sz (wanted_is rfl rfl e431 rfl) ?_
    intro a N; have sz := N.s sz; have df := N.d df; have e0 := N.o e0; have e1 := N.o e1; have e17 := N.o e17; have e18 := N.o e18; have e19 := N.o e19; have e431 := N.o e431; have e433 := N.o e433; have e435 := N.new
    refine sk (d := 436) sz (wanted_is rfl rfl e431 rfl) ?_
    intro a N; have sz := N.s sz; have df := N.d df; have e0 := N.o e0; have e1 := N.o e1; have e17 := N.o e17; have e18 := N.o e18; have e19 := N.o e19; have e431 := N.o e431; have e436 := N.new
    refine tn (d := 437) (v := ?_) sz ?_ ?_
    rotate_left 1
    · (intro ρ hρ; have rc : ∀ v, ρ (.const v) = v := fun v => hρ _; have r431 := (hρ _).trans e431; have r436 := (hρ _).trans e436; simp [go_sem, rc, r431, r436] <;> with_reducible rfl)
    intro a N; have sz := N.s sz; have df := N.d df; have e0 := N.o e0; have e1 := N.o e1; have e17 := N.o e17; have e18 := N.o e18; have e19 := N.o e19; have e437 := N.new
    refine tn (d := 438) (v := ?_) sz ?_ ?_
    rotate_left 1
    · (intro ρ hρ; have r437 := (hρ _).trans e437; simp [go_sem, r437] <;> with_reducible rfl)
    intro a N; have sz := N.s sz; have df := N.d df; have e0 := N.o e0; have e1 := N.o e1; have e17 := N.o e17; have e18 := N.o e18; have e19 := N.o e19; have e438 := N.new
    refine sk (d := 439) sz (wanted_is rfl rfl e438 rfl) ?_
    intro a N; have sz := N.s sz; have df := N.d df; have e0 := N.o e0; have e1 := N.o e1; have e17 := N.o e17; have e18 := N.o e18; have e19 := N.o e19; have e438 := N.o e438; have e439 := N.new
    refine sk (d := 440) sz (wanted_is rfl rfl e438 rfl) ?_
    intro a N; have sz := N.s sz; have df := N.d df; have e0 := N.o e0; have e1 := N.o e1; have e17 := N.o e17; have e18 := N.o e18; have e19 := N.o e19; have e438 := N.o e438; have e440 := N.new
    refine sk (d := 441) sz (wanted_is rfl rfl e438 rfl) ?_
    intro a N; have sz := N.s sz; have df := N.d df; have e0 := N.o e0; have e1 := N.o e1; have e17 := N.o e17; have e18 := N.o e18; have e19 := N.o e19; have e438 := N.o e438; have e440 := N.o e440; have e441 := N.new
    refine sk (d := 442) sz (wanted_is rfl rfl e438 rfl) ?_
    intro a N; have sz := N.s sz; have df := N.d df; have e0 := N.o e0; have e1 := N.o e1; have e17 := N.o e17; have e18 := N.o e18; have e19 := N.o e19; have e438 := N.o e438; have e440 := N.o e440; have e442 := N.new
    refine sk (d := 443) sz (wanted_is rfl rfl e438 rfl) ?_
    intro a N; have sz := N.s sz; have df := N.d df; have e0 := N.o e0; have e1 := N.o e1; have e17 := N.o e17; have e18 := N.o e18; have e19 := N.o e19; have e438 := N.o e438; have e443 := N.new
    refine tn (d := 444) (v := ?_) sz ?_ ?_
    rotate_left 1
    · (intro ρ hρ; have rc : ∀ v, ρ (.const v) = v := fun v => hρ _; have r438 := (hρ _).trans e438; have r443 := (hρ _).trans e443; simp [go_sem, rc, r438, r443] <;> with_reducible rfl)
    intro a N; have sz := N.s sz; have df := N.d df; have e0 := N.o e0; have e1 := N.o e1; have e17 := N.o e17; have e18 := N.o e18; have e19 := N.o e19; have e444 := N.new
    refine tn (d := 445) (v := ?_) sz ?_ ?_
    rotate_left 1
    · (intro ρ hρ; have r444 := (hρ _).trans e444; simp [go_sem, r444] <;> with_reducible rfl)
    intro a N; have sz := N.s sz; have df := N.d df; have e0 := N.o e0; have e1 := N.o e1; have e17 := N.o e17; have e18 := N.o e18; have e19 := N.o e19; have e445 := N.new
    refine sk (d := 446) sz (wanted_is rfl rfl e445 rfl) ?_
    intro a N; have sz := N.s sz; have df := N.d df; have e0 := N.o e0; have e1 := N.o e1; have e17 := N.o e17; have e18 := N.o e18; have e19 := N.o e19; have e445 := N.o e445; have e446 := N.new
    refine sk (d := 447) sz (wanted_is rfl rfl e445 rfl) ?_
    intro a N; have sz := N.s sz; have df := N.d df; have e0 := N.o e0; have e1 := N.o e1; have e17 := N.o e17; have e18 := N.o e18; have e19 := N.o e19; have e445 := N.o e445; have e447 := N.new
    refine sk (d := 448) sz (wanted_is rfl rfl e445 rfl) ?_
    intro a N; have sz := N.s sz; have df := N.d df; have e0 := N.o e0; have e1 := N.o e1; have e17 := N.o e17; have e18 := N.o e18; have e19 := N.o e19; have e445 := N.o e445; have e447 := N.o e447; have e448 := N.new
    refine sk (d := 449) sz (wanted_is rfl rfl e445 rfl) ?_
    intro a N; have sz := N.s sz; have df := N.d df; have e0 := N.o e0; have e1 := N.o e1; have e17 := N.o e17; have e18 := N.o e18; have e19 := N.o e19; have e445 := N.o e445; have e447 := N.o e447; have e449 := N.new
    refine sk (d := 450) sz (wanted_is rfl rfl e445 rfl) ?_
    intro a N; have sz := N.s sz; have df := N.d df; have e0 := N.o e0; have e1 := N.o e1; have e17 := N.o e17; have e18 := N.o e18; have e19 := N.o e19; have e445 := N.o e445; have e450 := N.new
    refine tn (d := 451) (v := ?_) sz ?_ ?_
    rotate_left 1
    · (intro ρ hρ; have rc : ∀ v, ρ (.const v) = v := fun v => hρ _; have r445 := (hρ _).trans e445; have r450 := (hρ _).trans e450; simp [go_sem, rc, r445, r450] <;> with_reducible rfl)
    intro a N; have sz := N.s sz; have df := N.d df; have e0 := N.o e0; have e1 := N.o e1; have e17 := N.o e17; have e18 := N.o e18; have e19 := N.o e19; have e451 := N.new
    refine tn (d := 452) (v := ?_) sz ?_ ?_
    rotate_left 1
    · (intro ρ hρ; have r451 := (hρ _).trans e451; simp [go_sem, r451] <;> with_reducible rfl)
    intro a N; have sz := N.s sz; have df := N.d df; have e0 := N.o e0; have e1 := N.o e1; have e17 := N.o e17; have e18 := N.o e18; have e19 := N.o e19; have e452 := N.new
    refine sk (d := 453) sz (wanted_is rfl rfl e452 rfl) ?_
    intro a N; have sz := N.s sz; have df := N.d df; have e0 := N.o e0; have e1 := N.o e1; have e17 := N.o e17; have e19 := N.o e19; have e452 := N.o e452; have e453 := N.new
    refine sk (d := 454) sz (wanted_is rfl rfl e452 rfl) ?_
    intro a N; have sz := N.s sz; have df := N.d df; have e0 := N.o e0; have e1 := N.o e1; have e17 := N.o e17; have e19 := N.o e19; have e452 := N.o e452; have e454 := N.new
    refine sk (d := 455) sz (wanted_is rfl rfl e452 rfl) ?_
    intro a N; have sz := N.s sz; have df := N.d df; have e0 := N.o e0; have e1 := N.o e1; have e17 := N.o e17; have e452 := N.o e452; have e454 := N.o e454; have e455 := N.new
    refine sk (d := 456) sz (wanted_is rfl rfl e452 rfl) ?_
    intro a N; have sz := N.s sz; have df := N.d df; have e0 := N.o e0; have e1 := N.o e1; have e17 := N.o e17; have e452 := N.o e452; have e454 := N.o e454; have e456 := N.new
    refine sk (d := 457) sz (wanted_is rfl rfl e452 rfl) ?_
    intro a N; have sz := N.s sz; have df := N.d df; have e0 := N.o e0; have e1 := N.o e1; have e17 := N.o e17; have e452 := N.o e452; have e457 := N.new
    refine tn (d := 458) (v := ?_) sz ?_ ?_
    rotate_left 1
    · (intro ρ hρ; have rc : ∀ v, ρ (.const v) = v := fun v => hρ _; have r452 := (hρ _).trans e452; have r457 := (hρ _).trans e457; simp [go_sem, rc, r452, r457] <;> with_reducible rfl)
    intro a N; have sz := N.s sz; have df := N.d df; have e0 := N.o e0; have e1 := N.o e1; have e17 := N.o e17; have e458 := N.new
    exact h _ w true ⟨sz, df, e0, e1⟩ e17 e458 ⟨fun h => (by cases h), fun h => absurd (congrArg (fun z => z.2.1) h) hf1⟩ (Keep.refl _ w)
  subst hf1
  refine tk (d := 422) (v := ?_) sz (wanted_is rfl rfl e417 rfl) ?_ ?_
  rotate_left 1
  · (intro ρ hρ; have r419 := (hρ _).trans e419; have r421 := (hρ _).trans e421; simp [go_sem, r419, r421] <;> with_reducible rfl)
  intro a N; have sz := N.s sz; have df := N.d df; have e0 := N.o e0; have e1 := N.o e1; have e17 := N.o e17; have e18 := N.o e18; have e19 := N.o e19; have e417 := N.o e417; have e422 := N.new
  refine tn (d := 423) (v := ?_) sz ?_ ?_
  rotate_left 1
  · (intro ρ hρ; have rc : ∀ v, ρ (.const v) = v := fun v => hρ _; have r417 := (hρ _).trans e417; have r422 := (hρ _).trans e422; simp [go_sem, rc, r417, r422] <;> with_reducible rfl)
  intro a N; have sz := N.s sz; have df := N.d df; have e0 := N.o e0; have e1 := N.o e1; have e17 := N.o e17; have e18 := N.o e18; have e19 := N.o e19; have e423 := N.new
  refine tn (d := 424) (v := ?_) sz ?_ ?_
  rotate_left 1
  · (intro ρ hρ; have r423 := (hρ _).trans e423; simp [go_sem, r423] <;> with_reducible rfl)
  intro a N; have sz := N.s sz; have df := N.d df; have e0 := N.o e0; have e1 := N.o e1; have e17 := N.o e17; have e18 := N.o e18; have e19 := N.o e19; have e424 := N.new
  refine tk (d := 425) (v := ?_) sz (wanted_is rfl rfl e424 rfl) ?_ ?_
  rotate_left 1
  · (intro ρ hρ; have r18 := (hρ _).trans e18; simp [go_sem, r18] <;> with_reducible rfl)
  intro a N; have sz := N.s sz; have df := N.d df; have e0 := N.o e0; have e1 := N.o e1; have e17 := N.o e17; have e18 := N.o e18; have e19 := N.o e19; have e424 := N.o e424; have e425 := N.new
  refine tk (d := 426) (v := ?_) sz (wanted_is rfl rfl e424 rfl) ?_ ?_
  rotate_left 1
  · (intro ρ hρ; have r425 := (hρ _).trans e425; simp [go_sem, r425, c2] <;> with_reducible rfl)
  intro a N; have sz := N.s sz; have df := N.d df; have e0 := N.o e0; have e1 := N.o e1; have e17 := N.o e17; have e18 := N.o e18; have e19 := N.o e19; have e424 := N.o e424; have e426 := N.new
  refine tk (d := 427) (v := ?_) sz (wanted_is rfl rfl e424 rfl) ?_ ?_
  rotate_left 1
  · (intro ρ hρ; have r19 := (hρ _).trans e19; simp [go_sem, r19] <;> with_reducible rfl)
  intro a N; have sz := N.s sz; have df := N.d df; have e0 := N.o e0; have e1 := N.o e1; have e17 := N.o e17; have e18 := N.o e18; have e19 := N.o e19; have e424 := N.o e424; have e426 := N.o e426; have e427 := N.new
  refine tk (d := 428) (v := ?_) sz (wanted_is rfl rfl e424 rfl) ?_ ?_
  rotate_left 1
  · (intro ρ hρ; have r427 := (hρ _).trans e427; simp [go_sem, r427, d2] <;> with_reducible rfl)
  intro a N; have sz := N.s sz; have df := N.d df; have e0 := N.o e0; have e1 := N.o e1; have e17 := N.o e17; have e18 := N.o e18; have e19 := N.o e19; have e424 := N.o e424; have e426 := N.o e426; have e428 := N.new
  by_cases hf2 : f2 = r2
  rotate_left 1
  · have hq : (f2.toList == r2.toList) = false := str_ne hf2
    refine tk (d := 429) (v := ?_) sz (wanted_is rfl rfl e424 rfl) ?_ ?_
    rotate_left 1
    · (intro ρ hρ; have r426 := (hρ _).trans e426; have r428 := (hρ _).trans e428; simp [go_sem, r426, r428, hq] <;> with_reducible rfl)
    intro a N; have sz := N.s sz; have df := N.d df; have e0 := N.o e0; have e1 := N.o e1; have e17 := N.o e17; have e18 := N.o e18; have e19 := N.o e19; have e424 := N.o e424; have e429 := N.new
    refine tn (d := 430) (v := ?_) sz ?_ ?_
    rotate_left 1
    · (intro ρ hρ; have rc : ∀ v, ρ (.const v) = v := fun v => hρ _; have r424 := (hρ _).trans e424; have r429 := (hρ _).trans e429; simp [go_sem, rc, r424, r429] <;> with_reducible rfl)
    intro a N; have sz := N.s sz; have df := N.d df; have e0 := N.o e0; have e1 := N.o e1; have e17 := N.o e17; have e18 := N.o e18; have e19 := N.o e19; have e430 := N.new
    refine tn (d := 431) (v := ?_) sz ?_ ?_
    rotate_left 1
    · (intro ρ hρ; have r430 := (hρ _).trans e430; simp [go_sem, r430] <;> with_reducible rfl)
    intro a N; have sz := N.s sz; have df := N.d df; have e0 := N.o e0; have e1 := N.o e1; have e17 := N.o e17; have e18 := N.o e18; have e19 := N.o e19; have e431 := N.new
    refine sk (d := 432) sz (wanted_is rfl rfl e431 rfl) ?_
    intro a N; have sz := N.s sz; have df := N.d df; have e0 := N.o e0; have e1 := N.o e1; have e17 := N.o e17; have e18 := N.o e18; have e19 := N.o e19; have e431 := N.o e431; have e432 := N.new
    refine sk (d := 433) sz (wanted_is rfl rfl e431 rfl) ?_
    intro a N; have sz := N.s sz; have df := N.d df; have e0 := N.o e0; have e1 := N.o e1; have e17 := N.o e17; have e18 := N.o e18; have e19 := N.o e19; have e431 := N.o e431; have e433 := N.new
    refine sk (d := 434) sz (wanted_is rfl rfl e431 rfl) ?_
    intro a N; have sz := N.s sz; have df := N.d df; have e0 := N.o e0; have e1 := N.o e1; have e17 := N.o e17; have e18 := N.o e18; have e19 := N.o e19; have e431 := N.o e431; have e433 := N.o e433; have e434 := N.new
    refine sk (d := 435) sz (wanted_is rfl rfl e431 rfl) ?_
    intro a N; have sz := N.s sz; have df := N.d df; have e0 := N.o e0; have e1 := N.o e1; have e17 := N.o e17; have e18 := N.o e18; have e19 := N.o e19; have e431 := N.o e431; have e433 := N.o e433; have e435 := N.new
    refine sk (d := 436) sz (wanted_is rfl rfl e431 rfl) ?_
    intro a N; have sz := N.s sz; have df := N.d df; have e0 := N.o e0; have e1 := N.o e1; have e17 := N.o e17; have e18 := N.o e18; have e19 := N.o e19; have e431 := N.o e431; have e436 := N.new
    refine tn (d := 437) (v := ?_) sz ?_ ?_
    rotate_left 1
    · (intro ρ hρ; have rc : ∀ v, ρ (.const v) = v := fun v => hρ _; have r431 := (hρ _).trans e431; have r436 := (hρ _).trans e436; simp [go_sem, rc, r431, r436] <;> with_reducible rfl)
    intro a N; have sz := N.s sz; have df := N.d df; have e0 := N.o e0; have e1 := N.o e1; have e17 := N.o e17; have e18 := N.o e18; have e19 := N.o e19; have e437 := N.new
    refine tn (d := 438) (v := ?_) sz ?_ ?_
    rotate_left 1
    · (intro ρ hρ; have r437 := (hρ _).trans e437; simp [go_sem, r437] <;> with_reducible rfl)
    intro a N; have sz := N.s sz; have df := N.d df; have e0 := N.o e0; have e1 := N.o e1; have e17 := N.o e17; have e18 := N.o e18; have e19 := N.o e19; have e438 := N.new
    refine sk (d := 439) sz (wanted_is rfl rfl e438 rfl) ?_
    intro a N; have sz := N.s sz; have df := N.d df; have e0 := N.o e0; have e1 := N.o e1; have e17 := N.o e17; have e18 := N.o e18; have e19 := N.o e19; have e438 := N.o e438; have e439 := N.new
    refine sk (d := 440) sz (wanted_is rfl rfl e438 rfl) ?_
    intro a N; have sz := N.s sz; have df := N.d df; have e0 := N.o e0; have e1 := N.o e1; have e17 := N.o e17; have e18 := N.o e18; have e19 := N.o e19; have e438 := N.o e438; have e440 := N.new
    refine sk (d := 441) sz (wanted_is rfl rfl e438 rfl) ?_
    intro a N; have sz := N.s sz; have df := N.d df; have e0 := N.o e0; have e1 := N.o e1; have e17 := N.o e17; have e18 := N.o e18; have e19 := N.o e19; have e438 := N.o e438; have e440 := N.o e440; have e441 := N.new
    refine sk (d := 442) sz (wanted_is rfl rfl e438 rfl) ?_
    intro a N; have sz := N.s sz; have df := N.d df; have e0 := N.o e0; have e1 := N.o e1; have e17 := N.o e17; have e18 := N.o e18; have e19 := N.o e19; have e438 := N.o e438; have e440 := N.o e440; have e442 := N.new
    refine sk (d := 443) sz (wanted_is rfl rfl e438 rfl) ?_
    intro a N; have sz := N.s sz; have df := N.d df; have e0 := N.o e0; have e1 := N.o e1; have e17 := N.o e17; have e18 := N.o e18; have e19 := N.o e19; have e438 := N.o e438; have e443 := N.new
    refine tn (d := 444) (v := ?_) sz ?_ ?_
    rotate_left 1
    · (intro ρ hρ; have rc : ∀ v, ρ (.const v) = v := fun v => hρ _; have r438 := (hρ _).trans e438; have r443 := (hρ _).trans e443; simp [go_sem, rc, r438, r443] <;> with_reducible rfl)
    intro a N; have sz := N.s sz; have df := N.d df; have e0 := N.o e0; have e1 := N.o e1; have e17 := N.o e17; have e18 := N.o e18; have e19 := N.o e19; have e444 := N.new
    refine tn (d := 445) (v := ?_) sz ?_ ?_
    rotate_left 1
    · (intro ρ hρ; have r444 := (hρ _).trans e444; simp [go_sem, r444] <;> with_reducible rfl)
    intro a N; have sz := N.s sz; have df := N.d df; have e0 := N.o e0; have e1 := N.o e1; have e17 := N.o e17; have e18 := N.o e18; have e19 := N.o e19; have e445 := N.new
    refine sk (d := 446) sz (wanted_is rfl rfl e445 rfl) ?_
    intro a N; have sz := N.s sz; have df := N.d df; have e0 := N.o e0; have e1 := N.o e1; have e17 := N.o e17; have e18 := N.o e18; have e19 := N.o e19; have e445 := N.o e445; have e446 := N.new
    refine sk (d := 447) sz (wanted_is rfl rfl e445 rfl) ?_
    intro a N; have sz := N.s sz; have df := N.d df; have e0 := N.o e0; have e1 := N.o e1; have e17 := N.o e17; have e18 := N.o e18; have e19 := N.o e19; have e445 := N.o e445; have e447 := N.new
    refine sk (d := 448) sz (wanted_is rfl rfl e445 rfl) ?_
    intro a N; have sz := N.s sz; have df := N.d df; have e0 := N.o e0; have e1 := N.o e1; have e17 := N.o e17; have e18 := N.o e18; have e19 := N.o e19; have e445 := N.o e445; have e447 := N.o e447; have e448 := N.new
    refine sk (d := 449) sz (wanted_is rfl rfl e445 rfl) ?_
    intro a N; have sz := N.s sz; have df := N.d df; have e0 := N.o e0; have e1 := N.o e1; have e17 := N.o e17; have e18 := N.o e18; have e19 := N.o e19; have e445 := N.o e445; have e447 := N.o e447; have e449 := N.new
    refine sk (d := 450) sz (wanted_is rfl rfl e445 rfl) ?_
    intro a N; have sz := N.s sz; have df := N.d df; have e0 := N.o e0; have e1 := N.o e1; have e17 := N.o e17; have e18 := N.o e18; have e19 := N.o e19; have e445 := N.o e445; have e450 := N.new
    refine tn (d := 451) (v := ?_) sz ?_ ?_
    rotate_left 1
    · (intro ρ hρ; have rc : ∀ v, ρ (.const v) = v := fun v => hρ _; have r445 := (hρ _).trans e445; have r450 := (hρ _).trans e450; simp [go_sem, rc, r445, r450] <;> with_reducible rfl)
    intro a N; have sz := N.s sz; have df := N.d df; have e0 := N.o e0; have e1 := N.o e1; have e17 := N.o e17; have e18 := N.o e18; have e19 := N.o e19; have e451 := N.new
    refine tn (d := 452) (v := ?_) sz ?_ ?_
    rotate_left 1
    · (intro ρ hρ; have r451 := (hρ _).trans e451; simp [go_sem, r451] <;> with_reducible rfl)
    intro a N; have sz := N.s sz; have df := N.d df; have e0 := N.o e0; have e1 := N.o e1; have e17 := N.o e17; have e18 := N.o e18; have e19 := N.o e19; have e452 := N.new
    refine sk (d := 453) sz (wanted_is rfl rfl e452 rfl) ?_
    intro a N; have sz := N.s sz; have df := N.d df; have e0 := N.o e0; have e1 := N.o e1; have e17 := N.o e17; have e19 := N.o e19; have e452 := N.o e452; have e453 := N.new
    refine sk (d := 454) sz (wanted_is rfl rfl e452 rfl) ?_
    intro a N; have sz := N.s sz; have df := N.d df; have e0 := N.o e0; have e1 := N.o e1; have e17 := N.o e17; have e19 := N.o e19; have e452 := N.o e452; have e454 := N.new
    refine sk (d := 455) sz (wanted_is rfl rfl e452 rfl) ?_
    intro a N; have sz := N.s sz; have df := N.d df; have e0 := N.o e0; have e1 := N.o e1; have e17 := N.o e17; have e452 := N.o e452; have e454 := N.o e454; have e455 := N.new
    refine sk (d := 456) sz (wanted_is rfl rfl e452 rfl) ?_
    intro a N; have sz := N.s sz; have df := N.d df; have e0 := N.o e0; have e1 := N.o e1; have e17 := N.o e17; have e452 := N.o e452; have e454 := N.o e454; have e456 := N.new
    refine sk (d := 457) sz (wanted_is rfl rfl e452 rfl) ?_
    intro a N; have sz := N.s sz; have df := N.d df; have e0 := N.o e0; have e1 := N.o e1; have e17 := N.o e17; have e452 := N.o e452; have e457 := N.new
    refine tn (d := 458) (v := ?_) sz ?_ ?_
    rotate_left 1
    · (intro ρ hρ; have rc : ∀ v, ρ (.const v) = v := fun v => hρ _; have r452 := (hρ _).trans e452; have r457 := (hρ _).trans e457; simp [go_sem, rc, r452, r457] <;> with_reducible rfl)
    intro a N; have sz := N.s sz; have df := N.d df; have e0 := N.o e0; have e1 := N.o e1; have e17 := N.o e17; have e458 := N.new
    exact h _ w true ⟨sz, df, e0, e1⟩ e17 e458 ⟨fun h => (by cases h), fun h => absurd (congrArg (fun z => z.2.2.1) h) hf2⟩ (Keep.refl _ w)
  subst hf2
  refine tk (d := 429) (v := ?_) sz (wanted_is rfl rfl e424 rfl) ?_ ?_
  rotate_left 1
  · (intro ρ hρ; have r426 := (hρ _).trans e426; have r428 := (hρ _).trans e428; simp [go_sem, r426, r428] <;> with_reducible rfl)
  intro a N; have sz := N.s sz; have df := N.d df; have e0 := N.o e0; have e1 := N.o e1; have e17 := N.o e17; have e18 := N.o e18; have e19 := N.o e19; have e424 := N.o e424; have e429 := N.new
  refine tn (d := 430) (v := ?_) sz ?_ ?_
  rotate_left 1
  · (intro ρ hρ; have rc : ∀ v, ρ (.const v) = v := fun v => hρ _; have r424 := (hρ _).trans e424; have r429 := (hρ _).trans e429; simp [go_sem, rc, r424, r429] <;> with_reducible rfl)
  intro a N; have sz := N.s sz; have df := N.d df; have e0 := N.o e0; have e1 := N.o e1; have e17 := N.o e17; have e18 := N.o e18; have e19 := N.o e19; have e430 := N.new
  refine tn (d := 431) (v := ?_) sz ?_ ?_
  rotate_left 1
  · (intro ρ hρ; have r430 := (hρ _).trans e430; simp [go_sem, r430] <;> with_reducible rfl)
  intro a N; have sz := N.s sz; have df := N.d df; have e0 := N.o e0; have e1 := N.o e1; have e17 := N.o e17; have e18 := N.o e18; have e19 := N.o e19; have e431 := N.new
  refine tk (d := 432) (v := ?_) sz (wanted_is rfl rfl e431 rfl) ?_ ?_
  rotate_left 1
  · (intro ρ hρ; have r18 := (hρ _).trans e18; simp [go_sem, r18] <;> with_reducible rfl)
  intro a N; have sz := N.s sz; have df := N.d df; have e0 := N.o e0; have e1 := N.o e1; have e17 := N.o e17; have e18 := N.o e18; have e19 := N.o e19; have e431 := N.o e431; have e432 := N.new
  refine tk (d := 433) (v := ?_) sz (wanted_is rfl rfl e431 rfl) ?_ ?_
  rotate_left 1
  · (intro ρ hρ; have r432 := (hρ _).trans e432; simp [go_sem, r432, c3] <;> with_reducible rfl)
  intro a N; have sz := N.s sz; have df := N.d df; have e0 := N.o e0; have e1 := N.o e1; have e17 := N.o e17; have e18 := N.o e18; have e19 := N.o e19; have e431 := N.o e431; have e433 := N.new
  refine tk (d := 434) (v := ?_) sz (wanted_is rfl rfl e431 rfl) ?_ ?_
  rotate_left 1
  · (intro ρ hρ; have r19 := (hρ _).trans e19; simp [go_sem, r19] <;> with_reducible rfl)
  intro a N; have sz := N.s sz; have df := N.d df; have e0 := N.o e0; have e1 := N.o e1; have e17 := N.o e17; have e18 := N.o e18; have e19 := N.o e19; have e431 := N.o e431; have e433 := N.o e433; have e434 := N.new
  refine tk (d := 435) (v := ?_) sz (wanted_is rfl rfl e431 rfl) ?_ ?_
  rotate_left 1
  · (intro ρ hρ; have r434 := (hρ _).trans e434; simp [go_sem, r434, d3] <;> with_reducible rfl)
  intro a N; have sz := N.s sz; have df := N.d df; have e0 := N.o e0; have e1 := N.o e1; have e17 := N.o e17; have e18 := N.o e18; have e19 := N.o e19; have e431 := N.o e431; have e433 := N.o e433; have e435 := N.new
  by_cases hf3 : f3 = r3
  rotate_left 1
  · have hq : (f3 != r3) = true := by simpa using hf3
    refine tk (d := 436) (v := ?_) sz (wanted_is rfl rfl e431 rfl) ?_ ?_
    rotate_left 1
    · (intro ρ hρ; have r433 := (hρ _).trans e433; have r435 := (hρ _).trans e435; simp [go_sem, r433, r435, hq] <;> with_reducible rfl)
    intro a N; have sz := N.s sz; have df := N.d df; have e0 := N.o e0; have e1 := N.o e1; have e17 := N.o e17; have e18 := N.o e18; have e19 := N.o e19; have e431 := N.o e431; have e436 := N.new
    refine tn (d := 437) (v := ?_) sz ?_ ?_
    rotate_left 1
    · (intro ρ hρ; have rc : ∀ v, ρ (.const v) = v := fun v => hρ _; have r431 := (hρ _).trans e431; have r436 := (hρ _).trans e436; simp [go_sem, rc, r431, r436] <;> with_reducible rfl)
    intro a N; have sz := N.s sz; have df := N.d df; have e0 := N.o e0; have e1 := N.o e1; have e17 := N.o e17; have e18 := N.o e18; have e19 := N.o e19; have e437 := N.new
    refine tn (d := 438) (v := ?_) sz ?_ ?_
    rotate_left 1
    · (intro ρ hρ; have r437 := (hρ _).trans e437; simp [go_sem, r437] <;> with_reducible rfl)
    intro a N; have sz := N.s sz; have df := N.d df; have e0 := N.o e0; have e1 := N.o e1; have e17 := N.o e17; have e18 := N.o e18; have e19 := N.o e19; have e438 := N.new
    refine sk (d := 439) sz (wanted_is rfl rfl e438 rfl) ?_
    intro a N; have sz := N.s sz; have df := N.d df; have e0 := N.o e0; have e1 := N.o e1; have e17 := N.o e17; have e18 := N.o e18; have e19 := N.o e19; have e438 := N.o e438; have e439 := N.new
    refine sk (d := 440) sz (wanted_is rfl rfl e438 rfl) ?_
    intro a N; have sz := N.s sz; have df := N.d df; have e0 := N.o e0; have e1 := N.o e1; have e17 := N.o e17; have e18 := N.o e18; have e19 := N.o e19; have e438 := N.o e438; have e440 := N.new
    refine sk (d := 441) sz (wanted_is rfl rfl e438 rfl) ?_
    intro a N; have sz := N.s sz; have df := N.d df; have e0 := N.o e0; have e1 := N.o e1; have e17 := N.o e17; have e18 := N.o e18; have e19 := N.o e19; have e438 := N.o e438; have e440 := N.o e440; have e441 := N.new
    refine sk (d := 442) sz (wanted_is rfl rfl e438 rfl) ?_
    intro a N; have sz := N.s sz; have df := N.d df; have e0 := N.o e0; have e1 := N.o e1; have e17 := N.o e17; have e18 := N.o e18; have e19 := N.o e19; have e438 := N.o e438; have e440 := N.o e440; have e442 := N.new
    refine sk (d := 443) sz (wanted_is rfl rfl e438 rfl) ?_
    intro a N; have sz := N.s sz; have df := N.d df; have e0 := N.o e0; have e1 := N.o e1; have e17 := N.o e17; have e18 := N.o e18; have e19 := N.o e19; have e438 := N.o e438; have e443 := N.new
    refine tn (d := 444) (v := ?_) sz ?_ ?_
    rotate_left 1
    · (intro ρ hρ; have rc : ∀ v, ρ (.const v) = v := fun v => hρ _; have r438 := (hρ _).trans e438; have r443 := (hρ _).trans e443; simp [go_sem, rc, r438, r443] <;> with_reducible rfl)
    intro a N; have sz := N.s sz; have df := N.d df; have e0 := N.o e0; have e1 := N.o e1; have e17 := N.o e17; have e18 := N.o e18; have e19 := N.o e19; have e444 := N.new
    refine tn (d := 445) (v := ?_) sz ?_ ?_
    rotate_left 1
    · (intro ρ hρ; have r444 := (hρ _).trans e444; simp [go_sem, r444] <;> with_reducible rfl)
    intro a N; have sz := N.s sz; have df := N.d df; have e0 := N.o e0; have e1 := N.o e1; have e17 := N.o e17; have e18 := N.o e18; have e19 := N.o e19; have e445 := N.new
    refine sk (d := 446) sz (wanted_is rfl rfl e445 rfl) ?_
    intro a N; have sz := N.s sz; have df := N.d df; have e0 := N.o e0; have e1 := N.o e1; have e17 := N.o e17; have e18 := N.o e18; have e19 := N.o e19; have e445 := N.o e445; have e446 := N.new
    refine sk (d := 447) sz (wanted_is rfl rfl e445 rfl) ?_
    intro a N; have sz := N.s sz; have df := N.d df; have e0 := N.o e0; have e1 := N.o e1; have e17 := N.o e17; have e18 := N.o e18; have e19 := N.o e19; have e445 := N.o e445; have e447 := N.new
    refine sk (d := 448) sz (wanted_is rfl rfl e445 rfl) ?_
    intro a N; have sz := N.s sz; have df := N.d df; have e0 := N.o e0; have e1 := N.o e1; have e17 := N.o e17; have e18 := N.o e18; have e19 := N.o e19; have e445 := N.o e445; have e447 := N.o e447; have e448 := N.new
    refine sk (d := 449) sz (wanted_is rfl rfl e445 rfl) ?_
    intro a N; have sz := N.s sz; have df := N.d df; have e0 := N.o e0; have e1 := N.o e1; have e17 := N.o e17; have e18 := N.o e18; have e19 := N.o e19; have e445 := N.o e445; have e447 := N.o e447; have e449 := N.new
    refine sk (d := 450) sz (wanted_is rfl rfl e445 rfl) ?_
    intro a N; have sz := N.s sz; have df := N.d df; have e0 := N.o e0; have e1 := N.o e1; have e17 := N.o e17; have e18 := N.o e18; have e19 := N.o e19; have e445 := N.o e445; have e450 := N.new
    refine tn (d := 451) (v := ?_) sz ?_ ?_
    rotate_left 1
    · (intro ρ hρ; have rc : ∀ v, ρ (.const v) = v := fun v => hρ _; have r445 := (hρ _).trans e445; have r450 := (hρ _).trans e450; simp [go_sem, rc, r445, r450] <;> with_reducible rfl)
    intro a N; have sz := N.s sz; have df := N.d df; have e0 := N.o e0; have e1 := N.o e1; have e17 := N.o e17; have e18 := N.o e18; have e19 := N.o e19; have e451 := N.new
    refine tn (d := 452) (v := ?_) sz ?_ ?_
    rotate_left 1
    · (intro ρ hρ; have r451 := (hρ _).trans e451; simp [go_sem, r451] <;> with_reducible rfl)
    intro a N; have sz := N.s sz; have df := N.d df; have e0 := N.o e0; have e1 := N.o e1; have e17 := N.o e17; have e18 := N.o e18; have e19 := N.o e19; have e452 := N.new
    refine sk (d := 453) sz (wanted_is rfl rfl e452 rfl) ?_
    intro a N; have sz := N.s sz; have df := N.d df; have e0 := N.o e0; have e1 := N.o e1; have e17 := N.o e17; have e19 := N.o e19; have e452 := N.o e452; have e453 := N.new
    refine sk (d := 454) sz (wanted_is rfl rfl e452 rfl) ?_
    intro a N; have sz := N.s sz; have df := N.d df; have e0 := N.o e0; have e1 := N.o e1; have e17 := N.o e17; have e19 := N.o e19; have e452 := N.o e452; have e454 := N.new
    refine sk (d := 455) sz (wanted_is rfl rfl e452 rfl) ?_
    intro a N; have sz := N.s sz; have df := N.d df; have e0 := N.o e0; have e1 := N.o e1; have e17 := N.o e17; have e452 := N.o e452; have e454 := N.o e454; have e455 := N.new
    refine sk (d := 456) sz (wanted_is rfl rfl e452 rfl) ?_
    intro a N; have sz := N.s sz; have df := N.d df; have e0 := N.o e0; have e1 := N.o e1; have e17 := N.o e17; have e452 := N.o e452; have e454 := N.o e454; have e456 := N.new
    refine sk (d := 457) sz (wanted_is rfl rfl e452 rfl) ?_
    intro a N; have sz := N.s sz; have df := N.d df; have e0 := N.o e0; have e1 := N.o e1; have e17 := N.o e17; have e452 := N.o e452; have e457 := N.new
    refine tn (d := 458) (v := ?_) sz ?_ ?_
    rotate_left 1
    · (intro ρ hρ; have rc : ∀ v, ρ (.const v) = v := fun v => hρ _; have r452 := (hρ _).trans e452; have r457 := (hρ _).trans e457; simp [go_sem, rc, r452, r457] <;> with_reducible rfl)
    intro a N; have sz := N.s sz; have df := N.d df; have e0 := N.o e0; have e1 := N.o e1; have e17 := N.o e17; have e458 := N.new
    exact h _ w true ⟨sz, df, e0, e1⟩ e17 e458 ⟨fun h => (by cases h), fun h => absurd (congrArg (fun z => z.2.2.2.1) h) hf3⟩ (Keep.refl _ w)
  subst hf3
  refine tk (d := 436) (v := ?_) sz (wanted_is rfl rfl e431 rfl) ?_ ?_
  rotate_left 1
  · (intro ρ hρ; have r433 := (hρ _).trans e433; have r435 := (hρ _).trans e435; simp [go_sem, r433, r435] <;> with_reducible rfl)
  intro a N; have sz := N.s sz; have df := N.d df; have e0 := N.o e0; have e1 := N.o e1; have e17 := N.o e17; have e18 := N.o e18; have e19 := N.o e19; have e431 := N.o e431; have e436 := N.new
  refine tn (d := 437) (v := ?_) sz ?_ ?_
  rotate_left 1
  · (intro ρ hρ; have rc : ∀ v, ρ (.const v) = v := fun v => hρ _; have r431 := (hρ _).trans e431; have r436 := (hρ _).trans e436; simp [go_sem, rc, r431, r436] <;> with_reducible rfl)
  intro a N; have sz := N.s sz; have df := N.d df; have e0 := N.o e0; have e1 := N.o e1; have e17 := N.o e17; have e18 := N.o e18; have e19 := N.o e19; have e437 := N.new
  refine tn (d := 438) (v := ?_) sz ?_ ?_
  rotate_left 1
  · (intro ρ hρ; have r437 := (hρ _).trans e437; simp [go_sem, r437] <;> with_reducible rfl)
  intro a N; have sz := N.s sz; have df := N.d df; have e0 := N.o e0; have e1 := N.o e1; have e17 := N.o e17; have e18 := N.o e18; have e19 := N.o e19; have e438 := N.new
  refine tk (d := 439) (v := ?_) sz (wanted_is rfl rfl e438 rfl) ?_ ?_
  rotate_left 1
  · (intro ρ hρ; have r18 := (hρ _).trans e18; simp [go_sem, r18] <;> with_reducible rfl)
  intro a N; have sz := N.s sz; have df := N.d df; have e0 := N.o e0; have e1 := N.o e1; have e17 := N.o e17; have e18 := N.o e18; have e19 := N.o e19; have e438 := N.o e438; have e439 := N.new
  refine tk (d := 440) (v := ?_) sz (wanted_is rfl rfl e438 rfl) ?_ ?_
  rotate_left 1
  · (intro ρ hρ; have r439 := (hρ _).trans e439; simp [go_sem, r439, c4] <;> with_reducible rfl)
  intro a N; have sz := N.s sz; have df := N.d df; have e0 := N.o e0; have e1 := N.o e1; have e17 := N.o e17; have e18 := N.o e18; have e19 := N.o e19; have e438 := N.o e438; have e440 := N.new
  refine tk (d := 441) (v := ?_) sz (wanted_is rfl rfl e438 rfl) ?_ ?_
  rotate_left 1
  · (intro ρ hρ; have r19 := (hρ _).trans e19; simp [go_sem, r19] <;> with_reducible rfl)
  intro a N; have sz := N.s sz; have df := N.d df; have e0 := N.o e0; have e1 := N.o e1; have e17 := N.o e17; have e18 := N.o e18; have e19 := N.o e19; have e438 := N.o e438; have e440 := N.o e440; have e441 := N.new
  refine tk (d := 442) (v := ?_) sz (wanted_is rfl rfl e438 rfl) ?_ ?_
  rotate_left 1
  · (intro ρ hρ; have r441 := (hρ _).trans e441; simp [go_sem, r441, d4] <;> with_reducible rfl)
  intro a N; have sz := N.s sz; have df := N.d df; have e0 := N.o e0; have e1 := N.o e1; have e17 := N.o e17; have e18 := N.o e18; have e19 := N.o e19; have e438 := N.o e438; have e440 := N.o e440; have e442 := N.new
  by_cases hf4 : f4 = r4
  rotate_left 1
  · have hq : (f4 != r4) = true := by simpa using hf4
    refine tk (d := 443) (v := ?_) sz (wanted_is rfl rfl e438 rfl) ?_ ?_
    rotate_left 1
    · (intro ρ hρ; have r440 := (hρ _).trans e440; have r442 := (hρ _).trans e442; simp [go_sem, r440, r442, hq] <;> with_reducible rfl)
    intro a N; have sz := N.s sz; have df := N.d df; have e0 := N.o e0; have e1 := N.o e1; have e17 := N.o e17; have e18 := N.o e18; have e19 := N.o e19; have e438 := N.o e438; have e443 := N.new
    refine tn (d := 444) (v := ?_) sz ?_ ?_
    rotate_left 1
    · (intro ρ hρ; have rc : ∀ v, ρ (.const v) = v := fun v => hρ _; have r438 := (hρ _).trans e438; have r443 := (hρ _).trans e443; simp [go_sem, rc, r438, r443] <;> with_reducible rfl)
    intro a N; have sz := N.s sz; have df := N.d df; have e0 := N.o e0; have e1 := N.o e1; have e17 := N.o e17; have e18 := N.o e18; have e19 := N.o e19; have e444 := N.new
    refine tn (d := 445) (v := ?_) sz ?_ ?_
    rotate_left 1
    · (intro ρ hρ; have r444 := (hρ _).trans e444; simp [go_sem, r444] <;> with_reducible rfl)
    intro a N; have sz := N.s sz; have df := N.d df; have e0 := N.o e0; have e1 := N.o e1; have e17 := N.o e17; have e18 := N.o e18; have e19 := N.o e19; have e445 := N.new
    refine sk (d := 446) sz (wanted_is rfl rfl e445 rfl) ?_
    intro a N; have sz := N.s sz; have df := N.d df; have e0 := N.o e0; have e1 := N.o e1; have e17 := N.o e17; have e18 := N.o e18; have e19 := N.o e19; have e445 := N.o e445; have e446 := N.new
    refine sk (d := 447) sz (wanted_is rfl rfl e445 rfl) ?_
    intro a N; have sz := N.s sz; have df := N.d df; have e0 := N.o e0; have e1 := N.o e1; have e17 := N.o e17; have e18 := N.o e18; have e19 := N.o e19; have e445 := N.o e445; have e447 := N.new
    refine sk (d := 448) sz (wanted_is rfl rfl e445 rfl) ?_
    intro a N; have sz := N.s sz; have df := N.d df; have e0 := N.o e0; have e1 := N.o e1; have e17 := N.o e17; have e18 := N.o e18; have e19 := N.o e19; have e445 := N.o e445; have e447 := N.o e447; have e448 := N.new
    refine sk (d := 449) sz (wanted_is rfl rfl e445 rfl) ?_
    intro a N; have sz := N.s sz; have df := N.d df; have e0 := N.o e0; have e1 := N.o e1; have e17 := N.o e17; have e18 := N.o e18; have e19 := N.o e19; have e445 := N.o e445; have e447 := N.o e447; have e449 := N.new
    refine sk (d := 450) sz (wanted_is rfl rfl e445 rfl) ?_
    intro a N; have sz := N.s sz; have df := N.d df; have e0 := N.o e0; have e1 := N.o e1; have e17 := N.o e17; have e18 := N.o e18; have e19 := N.o e19; have e445 := N.o e445; have e450 := N.new
    refine tn (d := 451) (v := ?_) sz ?_ ?_
    rotate_left 1
    · (intro ρ hρ; have rc : ∀ v, ρ (.const v) = v := fun v => hρ _; have r445 := (hρ _).trans e445; have r450 := (hρ _).trans e450; simp [go_sem, rc, r445, r450] <;> with_reducible rfl)
    intro a N; have sz := N.s sz; have df := N.d df; have e0 := N.o e0; have e1 := N.o e1; have e17 := N.o e17; have e18 := N.o e18; have e19 := N.o e19; have e451 := N.new
    refine tn (d := 452) (v := ?_) sz ?_ ?_
    rotate_left 1
    · (intro ρ hρ; have r451 := (hρ _).trans e451; simp [go_sem, r451] <;> with_reducible rfl)
    intro a N; have sz := N.s sz; have df := N.d df; have e0 := N.o e0; have e1 := N.o e1; have e17 := N.o e17; have e18 := N.o e18; have e19 := N.o e19; have e452 := N.new
    refine sk (d := 453) sz (wanted_is rfl rfl e452 rfl) ?_
    intro a N; have sz := N.s sz; have df := N.d df; have e0 := N.o e0; have e1 := N.o e1; have e17 := N.o e17; have e19 := N.o e19; have e452 := N.o e452; have e453 := N.new
    refine sk (d := 454) sz (wanted_is rfl rfl e452 rfl) ?_
    intro a N; have sz := N.s sz; have df := N.d df; have e0 := N.o e0; have e1 := N.o e1; have e17 := N.o e17; have e19 := N.o e19; have e452 := N.o e452; have e454 := N.new
    refine sk (d := 455) sz (wanted_is rfl rfl e452 rfl) ?_
    intro a N; have sz := N.s sz; have df := N.d df; have e0 := N.o e0; have e1 := N.o e1; have e17 := N.o e17; have e452 := N.o e452; have e454 := N.o e454; have e455 := N.new
    refine sk (d := 456) sz (wanted_is rfl rfl e452 rfl) ?_
    intro a N; have sz := N.s sz; have df := N.d df; have e0 := N.o e0; have e1 := N.o e1; have e17 := N.o e17; have e452 := N.o e452; have e454 := N.o e454; have e456 := N.new
    refine sk (d := 457) sz (wanted_is rfl rfl e452 rfl) ?_
    intro a N; have sz := N.s sz; have df := N.d df; have e0 := N.o e0; have e1 := N.o e1; have e17 := N.o e17; have e452 := N.o e452; have e457 := N.new
    refine tn (d := 458) (v := ?_) sz ?_ ?_
    rotate_left 1
    · (intro ρ hρ; have rc : ∀ v, ρ (.const v) = v := fun v => hρ _; have r452 := (hρ _).trans e452; have r457 := (hρ _).trans e457; simp [go_sem, rc, r452, r457] <;> with_reducible rfl)
    intro a N; have sz := N.s sz; have df := N.d df; have e0 := N.o e0; have e1 := N.o e1; have e17 := N.o e17; have e458 := N.new
    exact h _ w true ⟨sz, df, e0, e1⟩ e17 e458 ⟨fun h => (by cases h), fun h => absurd (congrArg (fun z => z.2.2.2.2.1) h) hf4⟩ (Keep.refl _ w)
  subst hf4
  refine tk (d := 443) (v := ?_) sz (wanted_is rfl rfl e438 rfl) ?_ ?_
  rotate_left 1
  · (intro ρ hρ; have r440 := (hρ _).trans e440; have r442 := (hρ _).trans e442; simp [go_sem, r440, r442] <;> with_reducible rfl)
  intro a N; have sz := N.s sz; have df := N.d df; have e0 := N.o e0; have e1 := N.o e1; have e17 := N.o e17; have e18 := N.o e18; have e19 := N.o e19; have e438 := N.o e438; have e443 := N.new
  refine tn (d := 444) (v := ?_) sz ?_ ?_
  rotate_left 1
  · (intro ρ hρ; have rc : ∀ v, ρ (.const v) = v := fun v => hρ _; have r438 := (hρ _).trans e438; have r443 := (hρ _).trans e443; simp [go_sem, rc, r438, r443] <;> with_reducible rfl)
  intro a N; have sz := N.s sz; have df := N.d df; have e0 := N.o e0; have e1 := N.o e1; have e17 := N.o e17; have e18 := N.o e18; have e19 := N.o e19; have e444 := N.new
  refine tn (d := 445) (v := ?_) sz ?_ ?_
  rotate_left 1
  · (intro ρ hρ; have r444 := (hρ _).trans e444; simp [go_sem, r444] <;> with_reducible rfl)
  intro a N; have sz := N.s sz; have df := N.d df; have e0 := N.o e0; have e1 := N.o e1; have e17 := N.o e17; have e18 := N.o e18; have e19 := N.o e19; have e445 := N.new
  refine tk (d := 446) (v := ?_) sz (wanted_is rfl rfl e445 rfl) ?_ ?_
  rotate_left 1
  · (intro ρ hρ; have r18 := (hρ _).trans e18; simp [go_sem, r18] <;> with_reducible rfl)
  intro a N; have sz := N.s sz; have df := N.d df; have e0 := N.o e0; have e1 := N.o e1; have e17 := N.o e17; have e18 := N.o e18; have e19 := N.o e19; have e445 := N.o e445; have e446 := N.new
  refine tk (d := 447) (v := ?_) sz (wanted_is rfl rfl e445 rfl) ?_ ?_
  rotate_left 1
  · (intro ρ hρ; have r446 := (hρ _).trans e446; simp [go_sem, r446, c5] <;> with_reducible rfl)
  intro a N; have sz := N.s sz; have df := N.d df; have e0 := N.o e0; have e1 := N.o e1; have e17 := N.o e17; have e18 := N.o e18; have e19 := N.o e19; have e445 := N.o e445; have e447 := N.new
  refine tk (d := 448) (v := ?_) sz (wanted_is rfl rfl e445 rfl) ?_ ?_
  rotate_left 1
  · (intro ρ hρ; have r19 := (hρ _).trans e19; simp [go_sem, r19] <;> with_reducible rfl)
  intro a N; have sz := N.s sz; have df := N.d df; have e0 := N.o e0; have e1 := N.o e1; have e17 := N.o e17; have e18 := N.o e18; have e19 := N.o e19; have e445 := N.o e445; have e447 := N.o e447; have e448 := N.new
  refine tk (d := 449) (v := ?_) sz (wanted_is rfl rfl e445 rfl) ?_ ?_
  rotate_left 1
  · (intro ρ hρ; have r448 := (hρ _).trans e448; simp [go_sem, r448, d5] <;> with_reducible rfl)
  intro a N; have sz := N.s sz; have df := N.d df; have e0 := N.o e0; have e1 := N.o e1; have e17 := N.o e17; have e18 := N.o e18; have e19 := N.o e19; have e445 := N.o e445; have e447 := N.o e447; have e449 := N.new
  by_cases hf5 : f5 = r5
  rotate_left 1
  · have hq : (f5.toList == r5.toList) = false := str_ne hf5
    refine tk (d := 450) (v := ?_) sz (wanted_is rfl rfl e445 rfl) ?_ ?_
    rotate_left 1
    · (intro ρ hρ; have r447 := (hρ _).trans e447; have r449 := (hρ _).trans e449; simp [go_sem, r447, r449, hq] <;> with_reducible rfl)
    intro a N; have sz := N.s sz; have df := N.d df; have e0 := N.o e0; have e1 := N.o e1; have e17 := N.o e17; have e18 := N.o e18; have e19 := N.o e19; have e445 := N.o e445; have e450 := N.new
    refine tn (d := 451) (v := ?_) sz ?_ ?_
    rotate_left 1
    · (intro ρ hρ; have rc : ∀ v, ρ (.const v) = v := fun v => hρ _; have r445 := (hρ _).trans e445; have r450 := (hρ _).trans e450; simp [go_sem, rc, r445, r450] <;> with_reducible rfl)
    intro a N; have sz := N.s sz; have df := N.d df; have e0 := N.o e0; have e1 := N.o e1; have e17 := N.o e17; have e18 := N.o e18; have e19 := N.o e19; have e451 := N.new
    refine tn (d := 452) (v := ?_) sz ?_ ?_
    rotate_left 1
    · (intro ρ hρ; have r451 := (hρ _).trans e451; simp [go_sem, r451] <;> with_reducible rfl)
    intro a N; have sz := N.s sz; have df := N.d df; have e0 := N.o e0; have e1 := N.o e1; have e17 := N.o e17; have e18 := N.o e18; have e19 := N.o e19; have e452 := N.new
    refine sk (d := 453) sz (wanted_is rfl rfl e452 rfl) ?_
    intro a N; have sz := N.s sz; have df := N.d df; have e0 := N.o e0; have e1 := N.o e1; have e17 := N.o e17; have e19 := N.o e19; have e452 := N.o e452; have e453 := N.new
    refine sk (d := 454) sz (wanted_is rfl rfl e452 rfl) ?_
    intro a N; have sz := N.s sz; have df := N.d df; have e0 := N.o e0; have e1 := N.o e1; have e17 := N.o e17; have e19 := N.o e19; have e452 := N.o e452; have e454 := N.new
    refine sk (d := 455) sz (wanted_is rfl rfl e452 rfl) ?_
    intro a N; have sz := N.s sz; have df := N.d df; have e0 := N.o e0; have e1 := N.o e1; have e17 := N.o e17; have e452 := N.o e452; have e454 := N.o e454; have e455 := N.new
    refine sk (d := 456) sz (wanted_is rfl rfl e452 rfl) ?_
    intro a N; have sz := N.s sz; have df := N.d df; have e0 := N.o e0; have e1 := N.o e1; have e17 := N.o e17; have e452 := N.o e452; have e454 := N.o e454; have e456 := N.new
    refine sk (d := 457) sz (wanted_is rfl rfl e452 rfl) ?_
    intro a N; have sz := N.s sz; have df := N.d df; have e0 := N.o e0; have e1 := N.o e1; have e17 := N.o e17; have e452 := N.o e452; have e457 := N.new
    refine tn (d := 458) (v := ?_) sz ?_ ?_
    rotate_left 1
    · (intro ρ hρ; have rc : ∀ v, ρ (.const v) = v := fun v => hρ _; have r452 := (hρ _).trans e452; have r457 := (hρ _).trans e457; simp [go_sem, rc, r452, r457] <;> with_reducible rfl)
    intro a N; have sz := N.s sz; have df := N.d df; have e0 := N.o e0; have e1 := N.o e1; have e17 := N.o e17; have e458 := N.new
    exact h _ w true ⟨sz, df, e0, e1⟩ e17 e458 ⟨fun h => (by cases h), fun h => absurd (congrArg (fun z => z.2.2.2.2.2.1) h) hf5⟩ (Keep.refl _ w)
  subst hf5
  refine tk (d := 450) (v := ?_) sz (wanted_is rfl rfl e445 rfl) ?_ ?_
  rotate_left 1
  · (intro ρ hρ; have r447 := (hρ _).trans e447; have r449 := (hρ _).trans e449; simp [go_sem, r447, r449] <;> with_reducible rfl)
  intro a N; have sz := N.s sz; have df := N.d df; have e0 := N.o e0; have e1 := N.o e1; have e17 := N.o e17; have e18 := N.o e18; have e19 := N.o e19; have e445 := N.o e445; have e450 := N.new
  refine tn (d := 451) (v := ?_) sz ?_ ?_
  rotate_left 1
  · (intro ρ hρ; have rc : ∀ v, ρ (.const v) = v := fun v => hρ _; have r445 := (hρ _).trans e445; have r450 := (hρ _).trans e450; simp [go_sem, rc, r445, r450] <;> with_reducible rfl)
  intro a N; have sz := N.s sz; have df := N.d df; have e0 := N.o e0; have e1 := N.o e1; have e17 := N.o e17; have e18 := N.o e18; have e19 := N.o e19; have e451 := N.new
  refine tn (d := 452) (v := ?_) sz ?_ ?_
  rotate_left 1
  · (intro ρ hρ; have r451 := (hρ _).trans e451; simp [go_sem, r451] <;> with_reducible rfl)
  intro a N; have sz := N.s sz; have df := N.d df; have e0 := N.o e0; have e1 := N.o e1; have e17 := N.o e17; have e18 := N.o e18; have e19 := N.o e19; have e452 := N.new
  refine tk (d := 453) (v := ?_) sz (wanted_is rfl rfl e452 rfl) ?_ ?_
  rotate_left 1
  · (intro ρ hρ; have r18 := (hρ _).trans e18; simp [go_sem, r18] <;> with_reducible rfl)
  intro a N; have sz := N.s sz; have df := N.d df; have e0 := N.o e0; have e1 := N.o e1; have e17 := N.o e17; have e19 := N.o e19; have e452 := N.o e452; have e453 := N.new
  refine tk (d := 454) (v := ?_) sz (wanted_is rfl rfl e452 rfl) ?_ ?_
  rotate_left 1
  · (intro ρ hρ; have r453 := (hρ _).trans e453; simp [go_sem, r453, c6] <;> with_reducible rfl)
  intro a N; have sz := N.s sz; have df := N.d df; have e0 := N.o e0; have e1 := N.o e1; have e17 := N.o e17; have e19 := N.o e19; have e452 := N.o e452; have e454 := N.new
  refine tk (d := 455) (v := ?_) sz (wanted_is rfl rfl e452 rfl) ?_ ?_
  rotate_left 1
  · (intro ρ hρ; have r19 := (hρ _).trans e19; simp [go_sem, r19] <;> with_reducible rfl)
  intro a N; have sz := N.s sz; have df := N.d df; have e0 := N.o e0; have e1 := N.o e1; have e17 := N.o e17; have e452 := N.o e452; have e454 := N.o e454; have e455 := N.new
  refine tk (d := 456) (v := ?_) sz (wanted_is rfl rfl e452 rfl) ?_ ?_
  rotate_left 1
  · (intro ρ hρ; have r455 := (hρ _).trans e455; simp [go_sem, r455, d6] <;> with_reducible rfl)
  intro a N; have sz := N.s sz; have df := N.d df; have e0 := N.o e0; have e1 := N.o e1; have e17 := N.o e17; have e452 := N.o e452; have e454 := N.o e454; have e456 := N.new
  by_cases hf6 : f6 = r6
  rotate_left 1
  · have hq : (f6 != r6) = true := by simpa using hf6
    refine tk (d := 457) (v := ?_) sz (wanted_is rfl rfl e452 rfl) ?_ ?_
    rotate_left 1
    · (intro ρ hρ; have r454 := (hρ _).trans e454; have r456 := (hρ _).trans e456; simp [go_sem, r454, r456, hq] <;> with_reducible rfl)
    intro a N; have sz := N.s sz; have df := N.d df; have e0 := N.o e0; have e1 := N.o e1; have e17 := N.o e17; have e452 := N.o e452; have e457 := N.new
    refine tn (d := 458) (v := ?_) sz ?_ ?_
    rotate_left 1
    · (intro ρ hρ; have rc : ∀ v, ρ (.const v) = v := fun v => hρ _; have r452 := (hρ _).trans e452; have r457 := (hρ _).trans e457; simp [go_sem, rc, r452, r457] <;> with_reducible rfl)
    intro a N; have sz := N.s sz; have df := N.d df; have e0 := N.o e0; have e1 := N.o e1; have e17 := N.o e17; have e458 := N.new
    exact h _ w true ⟨sz, df, e0, e1⟩ e17 e458 ⟨fun h => (by cases h), fun h => absurd (congrArg (fun z => z.2.2.2.2.2.2) h) hf6⟩ (Keep.refl _ w)
  subst hf6
  refine tk (d := 457) (v := ?_) sz (wanted_is rfl rfl e452 rfl) ?_ ?_
  rotate_left 1
  · (intro ρ hρ; have r454 := (hρ _).trans e454; have r456 := (hρ _).trans e456; simp [go_sem, r454, r456] <;> with_reducible rfl)
  intro a N; have sz := N.s sz; have df := N.d df; have e0 := N.o e0; have e1 := N.o e1; have e17 := N.o e17; have e452 := N.o e452; have e457 := N.new
  refine tn (d := 458) (v := ?_) sz ?_ ?_
  rotate_left 1
  · (intro ρ hρ; have rc : ∀ v, ρ (.const v) = v := fun v => hρ _; have r452 := (hρ _).trans e452; have r457 := (hρ _).trans e457; simp [go_sem, rc, r452, r457] <;> with_reducible rfl)
  intro a N; have sz := N.s sz; have df := N.d df; have e0 := N.o e0; have e1 := N.o e1; have e17 := N.o e17; have e458 := N.new
  exact h _ w false ⟨sz, df, e0, e1⟩ e17 e458 ⟨fun _ => rfl, fun _ => rfl⟩ (Keep.refl _ w)

theorem reL_loop {g o g' o' n d1 d2 : Nat} {w0 : World} {b1 b2 : Option Addr} {xs ys : List (Int × Int × ByteArray × Int × Int × ByteArray × Int)} {Pb Qb : Nat → Prop} {Q : Exit → Act → World → Prop} (hQ : PanicOnly Q) (hX : LAt eLot Pb w0 (.slice b1 n d1) xs) (hY : LAt eLot Qb w0 (.slice b2 n d2) ys) (hn : n = xs.length) (hm : n = ys.length)
    (HP : Hid (∀ w', Keep (fun _ => False) w0 w' → w'.cell? ⟨g, o + 7, none⟩ = some (.slice b1 n d1) ∧ w'.cell? ⟨g', o' + 7, none⟩ = some (.slice b2 n d2)))
    (hret : ∀ a w, FrE (.pointer (some ⟨g, o, none⟩)) (.pointer (some ⟨g', o', none⟩)) a → a.eval (.tmp 4) = .bool false → Keep (fun _ => False) w0 w → xs ≠ ys → Q .ret a w)
    (hdone : ∀ a w, FrE (.pointer (some ⟨g, o, none⟩)) (.pointer (some ⟨g', o', none⟩)) a → Keep (fun _ => False) w0 w → xs = ys → Q .normal a w)
    {a : Act} {w : World} (ha : FrE (.pointer (some ⟨g, o, none⟩)) (.pointer (some ⟨g', o', none⟩)) a) (hi : a.eval (.tmp 17) = .int .i64 0) (hk : Keep (fun _ => False) w0 w) :
    (Code.block 8 (Code.loop (((rgEq 30).seq (Code.cond (.tmp 395) .skip (.exit 8))).seq ((Code.block 9 ((rgEq 32).seq ((rgEq 33).seq (Code.cond (.tmp 458) ((rgEq 34).seq .ret) .skip)))).seq (rgEq 31))))).wp Try.prog Q a w := by
  have hcap : (n : Int) ≤ 9223372036854775807 := by obtain ⟨_, _, e, _, h9, _⟩ := hX; simp only [Value.slice.injEq] at e; obtain ⟨_, h8, _⟩ := e; have := ‹_ ≤ maxLen›; unfold maxLen at *; omega
  refine eqLoop (i := 17) (c1 := 395) (c2 := 458) (RR := rgEq 34) (by rw [← hn, ← hm]) hQ (fun a w k Q ha hi hk h => reL_cond (n := n) ha hi (HP.out _ hk).1 (fun a' ha' hi' hc' => h a' ha' hi' (by rw [hc', hn]))) ?_ (fun a w Q ha h => reL_ret ha h) (fun a w k Q ha hi hlt h => reL_post ha hi (by omega) h) hret hdone ha hi hk
  intro a w k x y Q hQ ha hi hk hx hy h
  have hkn : k < n := by have := (List.getElem?_eq_some_iff.1 hx).1; omega
  obtain ⟨g1, o1, cs1, rfl, hg1, _, hH1, hr1⟩ := (hX.keep hk (fun _ _ _ h => h)).get k x hx
  obtain ⟨g2, o2, cs2, rfl, hg2, _, hH2, hr2⟩ := (hY.keep hk (fun _ _ _ h => h)).get k y hy
  obtain ⟨f0, f1, f2, f3, f4, f5, f6⟩ := x
  obtain ⟨r0, r1, r2, r3, r4, r5, r6⟩ := y
  have hcs1 : cs1 = [.int .i64 f0, .int .i64 f1, .string f2, .int .i64 f3, .int .i64 f4, .string f5, .int .i64 f6] := hH1
  have hcs2 : cs2 = [.int .i64 r0, .int .i64 r1, .string r2, .int .i64 r3, .int .i64 r4, .string r5, .int .i64 r6] := hH2
  subst hcs1 hcs2
  have HPP : Hid (∀ w', Keep (fun _ => False) w w' → w'.cell? ⟨g, o + 7, none⟩ = some (.slice (some ⟨g1, o1, none⟩) n d1) ∧ w'.cell? ⟨g', o' + 7, none⟩ = some (.slice (some ⟨g2, o2, none⟩) n d2) ∧ w'.rangeAt g1 (o1 + k * 7) _ ∧ w'.rangeAt g2 (o2 + k * 7) _) := Lib.hid (fun w' kk => ⟨(HP.out _ (hk.trans kk (fun _ h => h.elim))).1, (HP.out _ (hk.trans kk (fun _ h => h.elim))).2, rangeAt_keep hr1 kk hg1 (fun h => h), rangeAt_keep hr2 kk hg2 (fun h => h)⟩)
  refine wp_seq (reL_asg (n := n) (fun c a d v w h => hQ c a d v w h) ha hi hkn hkn HPP (fun a1 w1 h1 h2 ha1 hi1 ex1 ey1 t1 t2 k1 => ?_))
  refine wp_seq (reL_cmp ha1 hi1 ex1 ey1 t1 t2 (fun a2 w2 b ha2 hi2 hb2 hiff k2 => ?_))
  exact h a2 w2 b ha2 hi2 hb2 hiff ((hk.trans k1 (fun _ h => h.elim)).trans k2 (fun _ h => h.elim))

end Go.Proofs.Ytpefkellcigpkaa.Cd
