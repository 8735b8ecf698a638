/- codec: the reference's comparison: its loop over Chars. (made by tools/genre2.py) -/
import Derived.Test.YtpefkellcigpkaaCdFr
import Derived.Test.YtpefkellcigpkaaCdEqI
import Derived.Test.YtpefkellcigpkaaCdLs
namespace Go.Proofs.Ytpefkellcigpkaa.Cd
open Go.RowKit Go.Deep Go.Proofs.Ytpefkellcigpkaa
set_option maxRecDepth 100000

theorem reC_cond {g o g' o' : Nat} {a : Act} {w : World} {Q : Exit → Act → World → Prop} {k n d : Nat} {b : Option Addr} (ha : FrE (.pointer (some ⟨g, o, none⟩)) (.pointer (some ⟨g', o', none⟩)) a) (e5 : a.eval (.tmp 5) = .int .i64 (k : Int)) (c : w.cell? ⟨g, o + 3, none⟩ = some (.slice b n d))
    (h : ∀ a', FrE (.pointer (some ⟨g, o, none⟩)) (.pointer (some ⟨g', o', none⟩)) a' → a'.eval (.tmp 5) = .int .i64 (k : Int) → a'.eval (.tmp 148) = .bool (decide (k < n)) → Q .normal a' w) : (rgEq 6).wp Try.prog Q a w := by
  obtain ⟨sz, df, e0, e1⟩ := ha
  conv => arg 2; whnf
  refine wp_region_list ?_
  dsimp only
  refine tn (d := 142) (v := ?_) sz ?_ ?_
  rotate_left 1
  · (intro ρ hρ; have r5 := (hρ _).trans e5; simp [go_sem, r5] <;> with_reducible rfl)
  intro a N; have sz := N.s sz; have df := N.d df; have e0 := N.o e0; have e1 := N.o e1; have e5 := N.o e5; have e142 := N.new
  refine tn (d := 143) (v := ?_) sz ?_ ?_
  rotate_left 1
  · (intro ρ hρ; have r0 := (hρ _).trans e0; simp [go_sem, r0] <;> with_reducible rfl)
  intro a N; have sz := N.s sz; have df := N.d df; have e0 := N.o e0; have e1 := N.o e1; have e5 := N.o e5; have e142 := N.o e142; have e143 := N.new
  refine tn (d := 144) (v := ?_) sz ?_ ?_
  rotate_left 1
  · (intro ρ hρ; have r143 := (hρ _).trans e143; simp [go_sem, r143] <;> with_reducible rfl)
  intro a N; have sz := N.s sz; have df := N.d df; have e0 := N.o e0; have e1 := N.o e1; have e5 := N.o e5; have e142 := N.o e142; have e144 := N.new
  refine tn (d := 145) (v := ?_) sz ?_ ?_
  rotate_left 1
  · (intro ρ hρ; have r144 := (hρ _).trans e144; simp [go_sem, r144] <;> with_reducible rfl)
  intro a N; have sz := N.s sz; have df := N.d df; have e0 := N.o e0; have e1 := N.o e1; have e5 := N.o e5; have e142 := N.o e142; have e145 := N.new
  refine tn (d := 146) (v := ?_) sz ?_ ?_
  rotate_left 1
  · (intro ρ hρ; have r145 := (hρ _).trans e145; simp [go_sem, r145, c] <;> with_reducible rfl)
  intro a N; have sz := N.s sz; have df := N.d df; have e0 := N.o e0; have e1 := N.o e1; have e5 := N.o e5; have e142 := N.o e142; have e146 := N.new
  refine tn (d := 147) (v := ?_) sz ?_ ?_
  rotate_left 1
  · (intro ρ hρ; have r146 := (hρ _).trans e146; simp [go_sem, r146] <;> with_reducible rfl)
  intro a N; have sz := N.s sz; have df := N.d df; have e0 := N.o e0; have e1 := N.o e1; have e5 := N.o e5; have e142 := N.o e142; have e147 := N.new
  refine tn (d := 148) (v := ?_) sz ?_ ?_
  rotate_left 1
  · (intro ρ hρ; have r142 := (hρ _).trans e142; have r147 := (hρ _).trans e147; simp [go_sem, r142, r147] <;> with_reducible rfl)
  intro a N; have sz := N.s sz; have df := N.d df; have e0 := N.o e0; have e1 := N.o e1; have e5 := N.o e5; have e148 := N.new
  exact h _ ⟨sz, df, e0, e1⟩ e5 e148

theorem reC_post {g o g' o' : Nat} {a : Act} {w : World} {Q : Exit → Act → World → Prop} {k : Nat} (ha : FrE (.pointer (some ⟨g, o, none⟩)) (.pointer (some ⟨g', o', none⟩)) a) (e5 : a.eval (.tmp 5) = .int .i64 (k : Int)) (hk : (k : Int) + 1 ≤ 9223372036854775807)
    (h : ∀ a', FrE (.pointer (some ⟨g, o, none⟩)) (.pointer (some ⟨g', o', none⟩)) a' → a'.eval (.tmp 5) = .int .i64 ((k + 1 : Nat) : Int) → Q .normal a' w) : (rgEq 7).wp Try.prog Q a w := by
  obtain ⟨sz, df, e0, e1⟩ := ha
  have hwr : IntKind.i64.wrap ((k : Int) + 1) = ((k + 1 : Nat) : Int) := i64_nat (k + 1) (by omega)
  conv => arg 2; whnf
  refine wp_region_list ?_
  dsimp only
  refine tn (d := 149) (v := ?_) sz ?_ ?_
  rotate_left 1
  · (intro ρ hρ; have r5 := (hρ _).trans e5; simp [go_sem, r5] <;> with_reducible rfl)
  intro a N; have sz := N.s sz; have df := N.d df; have e0 := N.o e0; have e1 := N.o e1; have e5 := N.o e5; have e149 := N.new
  refine tn (d := 150) (v := ?_) sz ?_ ?_
  rotate_left 1
  · (intro ρ hρ; have rc : ∀ v, ρ (.const v) = v := fun v => hρ _; have r149 := (hρ _).trans e149; simp [go_sem, rc, r149, hwr] <;> with_reducible rfl)
  intro a N; have sz := N.s sz; have df := N.d df; have e0 := N.o e0; have e1 := N.o e1; have e5 := N.o e5; have e150 := N.new
  refine tn (d := 5) (v := ?_) sz ?_ ?_
  rotate_left 1
  · (intro ρ hρ; have r150 := (hρ _).trans e150; simp [go_sem, r150] <;> with_reducible rfl)
  intro a N; have sz := N.s sz; have df := N.d df; have e0 := N.o e0; have e1 := N.o e1; have e5 := N.new
  exact h _ ⟨sz, df, e0, e1⟩ e5

theorem reC_ret {g o g' o' : Nat} {a : Act} {w : World} {Q : Exit → Act → World → Prop} (ha : FrE (.pointer (some ⟨g, o, none⟩)) (.pointer (some ⟨g', o', none⟩)) a) (h : ∀ a', FrE (.pointer (some ⟨g, o, none⟩)) (.pointer (some ⟨g', o', none⟩)) a' → a'.eval (.tmp 4) = .bool false → Q .normal a' w) : (rgEq 10).wp Try.prog Q a w := by
  obtain ⟨sz, df, e0, e1⟩ := ha
  conv => arg 2; whnf
  refine wp_region_list ?_
  dsimp only
  refine tn (d := 4) (v := ?_) sz ?_ ?_
  rotate_left 1
  · (intro ρ hρ; have rc : ∀ v, ρ (.const v) = v := fun v => hρ _; simp [go_sem, rc] <;> with_reducible rfl)
  intro a N; have sz := N.s sz; have df := N.d df; have e0 := N.o e0; have e1 := N.o e1; have e4 := N.new
  exact h _ ⟨sz, df, e0, e1⟩ e4

theorem reC_asg {g o g' o' : Nat} {a : Act} {w : World} {Q : Exit → Act → World → Prop} {k n d1 d2 g1 o1 g2 o2 : Nat} {f0 : ByteArray} {f1 : ByteArray} {f2 : Bool} {f3 : Int} {f4 : Int} {f5 : Int} {f6 : Int} {f7 : Int} {f8 : Int} {fa : Option Addr} {fn fd : Nat} {r0 : ByteArray} {r1 : ByteArray} {r2 : Bool} {r3 : Int} {r4 : Int} {r5 : Int} {r6 : Int} {r7 : Int} {r8 : Int} {ra : Option Addr} {rn rd : Nat} (hQ : PanicOnly Q) (ha : FrE (.pointer (some ⟨g, o, none⟩)) (.pointer (some ⟨g', o', none⟩)) a) (e5 : a.eval (.tmp 5) = .int .i64 (k : Int)) (h1 : k < n) (h2 : k < n)
    (HP : Hid (∀ w', Keep (fun _ => False) w w' → w'.cell? ⟨g, o + 3, none⟩ = some (.slice (some ⟨g1, o1, none⟩) n d1) ∧ w'.cell? ⟨g', o' + 3, none⟩ = some (.slice (some ⟨g2, o2, none⟩) n d2) ∧ w'.rangeAt g1 (o1 + k * 10) [.string f0, .string f1, .bool f2, .int .i64 f3, .int .i64 f4, .int .i64 f5, .int .i64 f6, .int .i64 f7, .int .i64 f8, .slice fa fn fd] ∧ w'.rangeAt g2 (o2 + k * 10) [.string r0, .string r1, .bool r2, .int .i64 r3, .int .i64 r4, .int .i64 r5, .int .i64 r6, .int .i64 r7, .int .i64 r8, .slice ra rn rd]))
    (h : ∀ a' w' h1 h2, FrE (.pointer (some ⟨g, o, none⟩)) (.pointer (some ⟨g', o', none⟩)) a' → a'.eval (.tmp 5) = .int .i64 (k : Int) → a'.eval (.tmp 6) = .pointer (some ⟨h1, 0, none⟩) → a'.eval (.tmp 7) = .pointer (some ⟨h2, 0, none⟩) → w'.heap[h1]? = some (.cells #[.string f0, .string f1, .bool f2, .int .i64 f3, .int .i64 f4, .int .i64 f5, .int .i64 f6, .int .i64 f7, .int .i64 f8, .slice fa fn fd] 58 (0, 0)) → w'.heap[h2]? = some (.cells #[.string r0, .string r1, .bool r2, .int .i64 r3, .int .i64 r4, .int .i64 r5, .int .i64 r6, .int .i64 r7, .int .i64 r8, .slice ra rn rd] 58 (0, 0)) → Keep (fun _ => False) w w' → Q .normal a' w') : (rgEq 8).wp Try.prog Q a w := by
  obtain ⟨sz, df, e0, e1⟩ := ha
  obtain ⟨Z, HZ, hZ⟩ := zChar
  conv => arg 2; whnf
  refine wp_region_z (fun w' => Keep (fun _ => False) w w') [] (by kernel_rfl) ?_
  have HS : Hid ((fun w' => Keep (fun _ => False) w w') w.drew) := Lib.hid ((Keep.refl (fun _ => False) w).drew)
  refine wz_take (i := 0) (d := 151) (v := ?_) rfl rfl (by rw [sz]; decide) (wanted_none rfl _) (by kernel_rfl) (by kernel_rfl) (by kernel_rfl) (fun c a w h => hQ c _ _ _ w h) (by kernel_rfl) HS.out ?_ ?_
  rotate_left 1
  · (intro w9 hS9 ρ hρ; have r0 := (hρ _).trans e0; simp [go_sem, r0] <;> with_reducible rfl)
  intro a N; have sz := N.s sz; have df := N.d df; have e0 := N.o e0; have e1 := N.o e1; have e5 := N.o e5; have e151 := N.new
  refine wz_take (i := 1) (d := 152) (v := ?_) rfl rfl (by rw [sz]; decide) (wanted_none rfl _) (by kernel_rfl) (by kernel_rfl) (by kernel_rfl) (fun c a w h => hQ c _ _ _ w h) (by kernel_rfl) HS.out ?_ ?_
  rotate_left 1
  · (intro w9 hS9 ρ hρ; have r151 := (hρ _).trans e151; simp [go_sem, r151] <;> with_reducible rfl)
  intro a N; have sz := N.s sz; have df := N.d df; have e0 := N.o e0; have e1 := N.o e1; have e5 := N.o e5; have e152 := N.new
  refine wz_take (i := 2) (d := 153) (v := ?_) rfl rfl (by rw [sz]; decide) (wanted_none rfl _) (by kernel_rfl) (by kernel_rfl) (by kernel_rfl) (fun c a w h => hQ c _ _ _ w h) (by kernel_rfl) HS.out ?_ ?_
  rotate_left 1
  · (intro w9 hS9 ρ hρ; have r152 := (hρ _).trans e152; simp [go_sem, r152] <;> with_reducible rfl)
  intro a N; have sz := N.s sz; have df := N.d df; have e0 := N.o e0; have e1 := N.o e1; have e5 := N.o e5; have e153 := N.new
  refine wz_take (i := 3) (d := 154) (v := ?_) rfl rfl (by rw [sz]; decide) (wanted_none rfl _) (by kernel_rfl) (by kernel_rfl) (by kernel_rfl) (fun c a w h => hQ c _ _ _ w h) (by kernel_rfl) HS.out ?_ ?_
  rotate_left 1
  · (intro w9 hS9 ρ hρ; have c := (HP.out _ hS9).1; have r153 := (hρ _).trans e153; simp [go_sem, r153, c] <;> with_reducible rfl)
  intro a N; have sz := N.s sz; have df := N.d df; have e0 := N.o e0; have e1 := N.o e1; have e5 := N.o e5; have e154 := N.new
  refine wz_take (i := 4) (d := 155) (v := ?_) rfl rfl (by rw [sz]; decide) (wanted_none rfl _) (by kernel_rfl) (by kernel_rfl) (by kernel_rfl) (fun c a w h => hQ c _ _ _ w h) (by kernel_rfl) HS.out ?_ ?_
  rotate_left 1
  · (intro w9 hS9 ρ hρ; have r5 := (hρ _).trans e5; simp [go_sem, r5] <;> with_reducible rfl)
  intro a N; have sz := N.s sz; have df := N.d df; have e0 := N.o e0; have e1 := N.o e1; have e5 := N.o e5; have e154 := N.o e154; have e155 := N.new
  refine wz_take (i := 5) (d := 156) (v := ?_) rfl rfl (by rw [sz]; decide) (wanted_none rfl _) (by kernel_rfl) (by kernel_rfl) (by kernel_rfl) (fun c a w h => hQ c _ _ _ w h) (by kernel_rfl) HS.out ?_ ?_
  rotate_left 1
  · (intro w9 hS9 ρ hρ; have r154 := (hρ _).trans e154; have r155 := (hρ _).trans e155; simp [go_sem, r154, r155, h1] <;> with_reducible rfl)
  intro a N; have sz := N.s sz; have df := N.d df; have e0 := N.o e0; have e1 := N.o e1; have e5 := N.o e5; have e156 := N.new
  refine wz_take (i := 6) (d := 157) (v := ?_) rfl rfl (by rw [sz]; decide) (wanted_none rfl _) (by kernel_rfl) (by kernel_rfl) (by kernel_rfl) (fun c a w h => hQ c _ _ _ w h) (by kernel_rfl) HS.out ?_ ?_
  rotate_left 1
  · (intro w9 hS9 ρ hρ; have hc := (HP.out _ hS9).2.2.1; have c0 : w9.cell? ⟨g1, o1 + k * 10, none⟩ = some (.string f0) := (by simpa using hc 0 _ rfl); have c1 : w9.cell? ⟨g1, o1 + k * 10 + 1, none⟩ = some (.string f1) := (by simpa using hc 1 _ rfl); have c2 : w9.cell? ⟨g1, o1 + k * 10 + 2, none⟩ = some (.bool f2) := (by simpa using hc 2 _ rfl); have c3 : w9.cell? ⟨g1, o1 + k * 10 + 3, none⟩ = some (.int .i64 f3) := (by simpa using hc 3 _ rfl); have c4 : w9.cell? ⟨g1, o1 + k * 10 + 4, none⟩ = some (.int .i64 f4) := (by simpa using hc 4 _ rfl); have c5 : w9.cell? ⟨g1, o1 + k * 10 + 5, none⟩ = some (.int .i64 f5) := (by simpa using hc 5 _ rfl); have c6 : w9.cell? ⟨g1, o1 + k * 10 + 6, none⟩ = some (.int .i64 f6) := (by simpa using hc 6 _ rfl); have c7 : w9.cell? ⟨g1, o1 + k * 10 + 7, none⟩ = some (.int .i64 f7) := (by simpa using hc 7 _ rfl); have c8 : w9.cell? ⟨g1, o1 + k * 10 + 8, none⟩ = some (.int .i64 f8) := (by simpa using hc 8 _ rfl); have c9 : w9.cell? ⟨g1, o1 + k * 10 + 9, none⟩ = some (.slice fa fn fd) := (by simpa using hc 9 _ rfl); have r156 := (hρ _).trans e156; simp [go_sem, r156, c0, c1, c2, c3, c4, c5, c6, c7, c8, c9] <;> with_reducible rfl)
  intro a N; have sz := N.s sz; have df := N.d df; have e0 := N.o e0; have e1 := N.o e1; have e5 := N.o e5; have e157 := N.new
  refine wz_take (i := 7) (d := 158) (v := ?_) rfl rfl (by rw [sz]; decide) (wanted_none rfl _) (by kernel_rfl) (by kernel_rfl) (by kernel_rfl) (fun c a w h => hQ c _ _ _ w h) (by kernel_rfl) HS.out ?_ ?_
  rotate_left 1
  · (intro w9 hS9 ρ hρ; have r1 := (hρ _).trans e1; simp [go_sem, r1] <;> with_reducible rfl)
  intro a N; have sz := N.s sz; have df := N.d df; have e0 := N.o e0; have e1 := N.o e1; have e5 := N.o e5; have e157 := N.o e157; have e158 := N.new
  refine wz_take (i := 8) (d := 159) (v := ?_) rfl rfl (by rw [sz]; decide) (wanted_none rfl _) (by kernel_rfl) (by kernel_rfl) (by kernel_rfl) (fun c a w h => hQ c _ _ _ w h) (by kernel_rfl) HS.out ?_ ?_
  rotate_left 1
  · (intro w9 hS9 ρ hρ; have r158 := (hρ _).trans e158; simp [go_sem, r158] <;> with_reducible rfl)
  intro a N; have sz := N.s sz; have df := N.d df; have e0 := N.o e0; have e1 := N.o e1; have e5 := N.o e5; have e157 := N.o e157; have e159 := N.new
  refine wz_take (i := 9) (d := 160) (v := ?_) rfl rfl (by rw [sz]; decide) (wanted_none rfl _) (by kernel_rfl) (by kernel_rfl) (by kernel_rfl) (fun c a w h => hQ c _ _ _ w h) (by kernel_rfl) HS.out ?_ ?_
  rotate_left 1
  · (intro w9 hS9 ρ hρ; have r159 := (hρ _).trans e159; simp [go_sem, r159] <;> with_reducible rfl)
  intro a N; have sz := N.s sz; have df := N.d df; have e0 := N.o e0; have e1 := N.o e1; have e5 := N.o e5; have e157 := N.o e157; have e160 := N.new
  refine wz_take (i := 10) (d := 161) (v := ?_) rfl rfl (by rw [sz]; decide) (wanted_none rfl _) (by kernel_rfl) (by kernel_rfl) (by kernel_rfl) (fun c a w h => hQ c _ _ _ w h) (by kernel_rfl) HS.out ?_ ?_
  rotate_left 1
  · (intro w9 hS9 ρ hρ; have c := (HP.out _ hS9).2.1; have r160 := (hρ _).trans e160; simp [go_sem, r160, c] <;> with_reducible rfl)
  intro a N; have sz := N.s sz; have df := N.d df; have e0 := N.o e0; have e1 := N.o e1; have e5 := N.o e5; have e157 := N.o e157; have e161 := N.new
  refine wz_take (i := 11) (d := 162) (v := ?_) rfl rfl (by rw [sz]; decide) (wanted_none rfl _) (by kernel_rfl) (by kernel_rfl) (by kernel_rfl) (fun c a w h => hQ c _ _ _ w h) (by kernel_rfl) HS.out ?_ ?_
  rotate_left 1
  · (intro w9 hS9 ρ hρ; have r5 := (hρ _).trans e5; simp [go_sem, r5] <;> with_reducible rfl)
  intro a N; have sz := N.s sz; have df := N.d df; have e0 := N.o e0; have e1 := N.o e1; have e5 := N.o e5; have e157 := N.o e157; have e161 := N.o e161; have e162 := N.new
  refine wz_take (i := 12) (d := 163) (v := ?_) rfl rfl (by rw [sz]; decide) (wanted_none rfl _) (by kernel_rfl) (by kernel_rfl) (by kernel_rfl) (fun c a w h => hQ c _ _ _ w h) (by kernel_rfl) HS.out ?_ ?_
  rotate_left 1
  · (intro w9 hS9 ρ hρ; have r161 := (hρ _).trans e161; have r162 := (hρ _).trans e162; simp [go_sem, r161, r162, h2] <;> with_reducible rfl)
  intro a N; have sz := N.s sz; have df := N.d df; have e0 := N.o e0; have e1 := N.o e1; have e5 := N.o e5; have e157 := N.o e157; have e163 := N.new
  refine wz_take (i := 13) (d := 164) (v := ?_) rfl rfl (by rw [sz]; decide) (wanted_none rfl _) (by kernel_rfl) (by kernel_rfl) (by kernel_rfl) (fun c a w h => hQ c _ _ _ w h) (by kernel_rfl) HS.out ?_ ?_
  rotate_left 1
  · (intro w9 hS9 ρ hρ; have hc := (HP.out _ hS9).2.2.2; have c0 : w9.cell? ⟨g2, o2 + k * 10, none⟩ = some (.string r0) := (by simpa using hc 0 _ rfl); have c1 : w9.cell? ⟨g2, o2 + k * 10 + 1, none⟩ = some (.string r1) := (by simpa using hc 1 _ rfl); have c2 : w9.cell? ⟨g2, o2 + k * 10 + 2, none⟩ = some (.bool r2) := (by simpa using hc 2 _ rfl); have c3 : w9.cell? ⟨g2, o2 + k * 10 + 3, none⟩ = some (.int .i64 r3) := (by simpa using hc 3 _ rfl); have c4 : w9.cell? ⟨g2, o2 + k * 10 + 4, none⟩ = some (.int .i64 r4) := (by simpa using hc 4 _ rfl); have c5 : w9.cell? ⟨g2, o2 + k * 10 + 5, none⟩ = some (.int .i64 r5) := (by simpa using hc 5 _ rfl); have c6 : w9.cell? ⟨g2, o2 + k * 10 + 6, none⟩ = some (.int .i64 r6) := (by simpa using hc 6 _ rfl); have c7 : w9.cell? ⟨g2, o2 + k * 10 + 7, none⟩ = some (.int .i64 r7) := (by simpa using hc 7 _ rfl); have c8 : w9.cell? ⟨g2, o2 + k * 10 + 8, none⟩ = some (.int .i64 r8) := (by simpa using hc 8 _ rfl); have c9 : w9.cell? ⟨g2, o2 + k * 10 + 9, none⟩ = some (.slice ra rn rd) := (by simpa using hc 9 _ rfl); have r163 := (hρ _).trans e163; simp [go_sem, r163, c0, c1, c2, c3, c4, c5, c6, c7, c8, c9] <;> with_reducible rfl)
  intro a N; have sz := N.s sz; have df := N.d df; have e0 := N.o e0; have e1 := N.o e1; have e5 := N.o e5; have e157 := N.o e157; have e164 := N.new
  refine wpAnyZ_vars (i := 14) (j := 15) (m := 16) (n := 17) (d1 := 6) (d2 := 7) (t := 58) (Z := Z) (C1 := #[.string f0, .string f1, .bool f2, .int .i64 f3, .int .i64 f4, .int .i64 f5, .int .i64 f6, .int .i64 f7, .int .i64 f8, .slice fa fn fd]) (C2 := #[.string r0, .string r1, .bool r2, .int .i64 r3, .int .i64 r4, .int .i64 r5, .int .i64 r6, .int .i64 r7, .int .i64 r8, .slice ra rn rd]) (x1 := .tmp 157) (x2 := .tmp 164) rfl rfl rfl rfl rfl rfl rfl rfl rfl rfl rfl rfl rfl rfl rfl rfl (by decide) (by kernel_rfl) (by kernel_rfl) (by kernel_rfl) (by kernel_rfl) (by kernel_rfl) (by kernel_rfl) (by decide) HZ.out (by rw [hZ]; kernel_rfl) hZ hZ (by simp [Value.oneCell']) (by simp [Value.oneCell']) (by rw [sz]; decide) (by rw [sz]; decide)
    (fun p q => by rw [eval_put_ne (by decide), eval_put_ne (by decide)]; exact e157) (fun p q => by rw [eval_put_ne (by decide), eval_put_ne (by decide)]; exact e164) (fun w' kk => HS.out.trans kk (fun _ h => h.elim)) ?_
  intro h1 h2 w9 t1 t2 kk
  have N1 := Nxt.put (a := a) (v := .pointer (some ⟨h1, 0, none⟩)) (show 6 < a.tmps.size by rw [sz]; decide)
  have N2 := Nxt.put (a := a.put (some 6) (.pointer (some ⟨h1, 0, none⟩))) (v := .pointer (some ⟨h2, 0, none⟩)) (show 7 < (a.put (some 6) _).tmps.size by rw [size_put, sz]; decide)
  exact h _ w9 h1 h2 ⟨N2.size.trans (N1.size.trans sz), N2.defers.trans (N1.defers.trans df), (N2.old 0 (by decide)).trans ((N1.old 0 (by decide)).trans e0), (N2.old 1 (by decide)).trans ((N1.old 1 (by decide)).trans e1)⟩
    ((N2.old 5 (by decide)).trans ((N1.old 5 (by decide)).trans e5)) ((N2.old 6 (by decide)).trans N1.new) N2.new t1 t2 (HS.out.trans kk (fun _ h => h.elim))

set_option maxHeartbeats 4000000 in
theorem reC_cmp {g o g' o' : Nat} {a : Act} {w : World} {Q : Exit → Act → World → Prop} {k h1 h2 : Nat} {f0 : ByteArray} {f1 : ByteArray} {f2 : Bool} {f3 : Int} {f4 : Int} {f5 : Int} {f6 : Int} {f7 : Int} {f8 : Int} {fa : Option Addr} {fn fd : Nat} {r0 : ByteArray} {r1 : ByteArray} {r2 : Bool} {r3 : Int} {r4 : Int} {r5 : Int} {r6 : Int} {r7 : Int} {r8 : Int} {ra : Option Addr} {rn rd : Nat} {fl rl : List Int} {Pb Qb : Nat → Prop} (hfl : LAt eI Pb w (.slice fa fn fd) fl) (hrl : LAt eI Qb w (.slice ra rn rd) rl) (ha : FrE (.pointer (some ⟨g, o, none⟩)) (.pointer (some ⟨g', o', none⟩)) a) (e5 : a.eval (.tmp 5) = .int .i64 (k : Int)) (e6 : a.eval (.tmp 6) = .pointer (some ⟨h1, 0, none⟩)) (e7 : a.eval (.tmp 7) = .pointer (some ⟨h2, 0, none⟩)) (t1 : w.heap[h1]? = some (.cells #[.string f0, .string f1, .bool f2, .int .i64 f3, .int .i64 f4, .int .i64 f5, .int .i64 f6, .int .i64 f7, .int .i64 f8, .slice fa fn fd] 58 (0, 0))) (t2 : w.heap[h2]? = some (.cells #[.string r0, .string r1, .bool r2, .int .i64 r3, .int .i64 r4, .int .i64 r5, .int .i64 r6, .int .i64 r7, .int .i64 r8, .slice ra rn rd] 58 (0, 0)))
    (h : ∀ a' w' b, FrE (.pointer (some ⟨g, o, none⟩)) (.pointer (some ⟨g', o', none⟩)) a' → a'.eval (.tmp 5) = .int .i64 (k : Int) → a'.eval (.tmp 233) = .bool b → (b = false ↔ (((f0, f1, f2, f3, f4, f5, f6, f7, f8, fl) : ByteArray × ByteArray × Bool × Int × Int × Int × Int × Int × Int × List Int) = (r0, r1, r2, r3, r4, r5, r6, r7, r8, rl))) → Keep (fun _ => False) w w' → Q .normal a' w') : (rgEq 9).wp Try.prog Q a w := by
  obtain ⟨sz, df, e0, e1⟩ := ha
  have c0 : _ = some (Value.string f0) := (cell_of_row _ _ 0 _ _ _ t1).trans rfl
  have d0 : _ = some (Value.string r0) := (cell_of_row _ _ 0 _ _ _ t2).trans rfl
  have c1 : _ = some (Value.string f1) := (cell_of_row _ _ 1 _ _ _ t1).trans rfl
  have d1 : _ = some (Value.string r1) := (cell_of_row _ _ 1 _ _ _ t2).trans rfl
  have c2 : _ = some (Value.bool f2) := (cell_of_row _ _ 2 _ _ _ t1).trans rfl
  have d2 : _ = some (Value.bool r2) := (cell_of_row _ _ 2 _ _ _ t2).trans rfl
  have c3 : _ = some (Value.int .i64 f3) := (cell_of_row _ _ 3 _ _ _ t1).trans rfl
  have d3 : _ = some (Value.int .i64 r3) := (cell_of_row _ _ 3 _ _ _ t2).trans rfl
  have c4 : _ = some (Value.int .i64 f4) := (cell_of_row _ _ 4 _ _ _ t1).trans rfl
  have d4 : _ = some (Value.int .i64 r4) := (cell_of_row _ _ 4 _ _ _ t2).trans rfl
  have c5 : _ = some (Value.int .i64 f5) := (cell_of_row _ _ 5 _ _ _ t1).trans rfl
  have d5 : _ = some (Value.int .i64 r5) := (cell_of_row _ _ 5 _ _ _ t2).trans rfl
  have c6 : _ = some (Value.int .i64 f6) := (cell_of_row _ _ 6 _ _ _ t1).trans rfl
  have d6 : _ = some (Value.int .i64 r6) := (cell_of_row _ _ 6 _ _ _ t2).trans rfl
  have c7 : _ = some (Value.int .i64 f7) := (cell_of_row _ _ 7 _ _ _ t1).trans rfl
  have d7 : _ = some (Value.int .i64 r7) := (cell_of_row _ _ 7 _ _ _ t2).trans rfl
  have c8 : _ = some (Value.int .i64 f8) := (cell_of_row _ _ 8 _ _ _ t1).trans rfl
  have d8 : _ = some (Value.int .i64 r8) := (cell_of_row _ _ 8 _ _ _ t2).trans rfl
  have c9 : _ = some (Value.slice fa fn fd) := (cell_of_row _ _ 9 _ _ _ t1).trans rfl
  have d9 : _ = some (Value.slice ra rn rd) := (cell_of_row _ _ 9 _ _ _ t2).trans rfl
  clear t1 t2
  conv => arg 2; whnf
  refine wp_region_list ?_
  dsimp only
  refine tn (d := 165) (v := ?_) sz ?_ ?_
  rotate_left 1
  · (intro ρ hρ; have r6 := (hρ _).trans e6; simp [go_sem, r6] <;> with_reducible rfl)
  intro a N; have sz := N.s sz; have df := N.d df; have e0 := N.o e0; have e1 := N.o e1; have e5 := N.o e5; have e6 := N.o e6; have e7 := N.o e7; have e165 := N.new
  refine tn (d := 166) (v := ?_) sz ?_ ?_
  rotate_left 1
  · (intro ρ hρ; have r165 := (hρ _).trans e165; simp [go_sem, r165, c0] <;> with_reducible rfl)
  intro a N; have sz := N.s sz; have df := N.d df; have e0 := N.o e0; have e1 := N.o e1; have e5 := N.o e5; have e6 := N.o e6; have e7 := N.o e7; have e166 := N.new
  refine tn (d := 167) (v := ?_) sz ?_ ?_
  rotate_left 1
  · (intro ρ hρ; have r7 := (hρ _).trans e7; simp [go_sem, r7] <;> with_reducible rfl)
  intro a N; have sz := N.s sz; have df := N.d df; have e0 := N.o e0; have e1 := N.o e1; have e5 := N.o e5; have e6 := N.o e6; have e7 := N.o e7; have e166 := N.o e166; have e167 := N.new
  refine tn (d := 168) (v := ?_) sz ?_ ?_
  rotate_left 1
  · (intro ρ hρ; have r167 := (hρ _).trans e167; simp [go_sem, r167, d0] <;> with_reducible rfl)
  intro a N; have sz := N.s sz; have df := N.d df; have e0 := N.o e0; have e1 := N.o e1; have e5 := N.o e5; have e6 := N.o e6; have e7 := N.o e7; have e166 := N.o e166; have e168 := N.new
  by_cases hf0 : f0 = r0
  rotate_left 1
  · have hq : (f0.toList == r0.toList) = false := str_ne hf0
    refine tn (d := 169) (v := ?_) sz ?_ ?_
    rotate_left 1
    · (intro ρ hρ; have r166 := (hρ _).trans e166; have r168 := (hρ _).trans e168; simp [go_sem, r166, r168, hq] <;> with_reducible rfl)
    intro a N; have sz := N.s sz; have df := N.d df; have e0 := N.o e0; have e1 := N.o e1; have e5 := N.o e5; have e6 := N.o e6; have e7 := N.o e7; have e169 := N.new
    refine tn (d := 170) (v := ?_) sz ?_ ?_
    rotate_left 1
    · (intro ρ hρ; have r169 := (hρ _).trans e169; simp [go_sem, r169] <;> with_reducible rfl)
    intro a N; have sz := N.s sz; have df := N.d df; have e0 := N.o e0; have e1 := N.o e1; have e5 := N.o e5; have e6 := N.o e6; have e7 := N.o e7; have e170 := N.new
    refine sk (d := 171) sz (wanted_is rfl rfl e170 rfl) ?_
    intro a N; have sz := N.s sz; have df := N.d df; have e0 := N.o e0; have e1 := N.o e1; have e5 := N.o e5; have e6 := N.o e6; have e7 := N.o e7; have e170 := N.o e170; have e171 := N.new
    refine sk (d := 172) sz (wanted_is rfl rfl e170 rfl) ?_
    intro a N; have sz := N.s sz; have df := N.d df; have e0 := N.o e0; have e1 := N.o e1; have e5 := N.o e5; have e6 := N.o e6; have e7 := N.o e7; have e170 := N.o e170; have e172 := N.new
    refine sk (d := 173) sz (wanted_is rfl rfl e170 rfl) ?_
    intro a N; have sz := N.s sz; have df := N.d df; have e0 := N.o e0; have e1 := N.o e1; have e5 := N.o e5; have e6 := N.o e6; have e7 := N.o e7; have e170 := N.o e170; have e172 := N.o e172; have e173 := N.new
    refine sk (d := 174) sz (wanted_is rfl rfl e170 rfl) ?_
    intro a N; have sz := N.s sz; have df := N.d df; have e0 := N.o e0; have e1 := N.o e1; have e5 := N.o e5; have e6 := N.o e6; have e7 := N.o e7; have e170 := N.o e170; have e172 := N.o e172; have e174 := N.new
    refine sk (d := 175) sz (wanted_is rfl rfl e170 rfl) ?_
    intro a N; have sz := N.s sz; have df := N.d df; have e0 := N.o e0; have e1 := N.o e1; have e5 := N.o e5; have e6 := N.o e6; have e7 := N.o e7; have e170 := N.o e170; have e175 := N.new
    refine tn (d := 176) (v := ?_) sz ?_ ?_
    rotate_left 1
    · (intro ρ hρ; have rc : ∀ v, ρ (.const v) = v := fun v => hρ _; have r170 := (hρ _).trans e170; have r175 := (hρ _).trans e175; simp [go_sem, rc, r170, r175] <;> with_reducible rfl)
    intro a N; have sz := N.s sz; have df := N.d df; have e0 := N.o e0; have e1 := N.o e1; have e5 := N.o e5; have e6 := N.o e6; have e7 := N.o e7; have e176 := N.new
    refine tn (d := 177) (v := ?_) sz ?_ ?_
    rotate_left 1
    · (intro ρ hρ; have r176 := (hρ _).trans e176; simp [go_sem, r176] <;> with_reducible rfl)
    intro a N; have sz := N.s sz; have df := N.d df; have e0 := N.o e0; have e1 := N.o e1; have e5 := N.o e5; have e6 := N.o e6; have e7 := N.o e7; have e177 := N.new
    refine sk (d := 178) sz (wanted_is rfl rfl e177 rfl) ?_
    intro a N; have sz := N.s sz; have df := N.d df; have e0 := N.o e0; have e1 := N.o e1; have e5 := N.o e5; have e6 := N.o e6; have e7 := N.o e7; have e177 := N.o e177; have e178 := N.new
    refine sk (d := 179) sz (wanted_is rfl rfl e177 rfl) ?_
    intro a N; have sz := N.s sz; have df := N.d df; have e0 := N.o e0; have e1 := N.o e1; have e5 := N.o e5; have e6 := N.o e6; have e7 := N.o e7; have e177 := N.o e177; have e179 := N.new
    refine sk (d := 180) sz (wanted_is rfl rfl e177 rfl) ?_
    intro a N; have sz := N.s sz; have df := N.d df; have e0 := N.o e0; have e1 := N.o e1; have e5 := N.o e5; have e6 := N.o e6; have e7 := N.o e7; have e177 := N.o e177; have e179 := N.o e179; have e180 := N.new
    refine sk (d := 181) sz (wanted_is rfl rfl e177 rfl) ?_
    intro a N; have sz := N.s sz; have df := N.d df; have e0 := N.o e0; have e1 := N.o e1; have e5 := N.o e5; have e6 := N.o e6; have e7 := N.o e7; have e177 := N.o e177; have e179 := N.o e179; have e181 := N.new
    refine sk (d := 182) sz (wanted_is rfl rfl e177 rfl) ?_
    intro a N; have sz := N.s sz; have df := N.d df; have e0 := N.o e0; have e1 := N.o e1; have e5 := N.o e5; have e6 := N.o e6; have e7 := N.o e7; have e177 := N.o e177; have e182 := N.new
    refine tn (d := 183) (v := ?_) sz ?_ ?_
    rotate_left 1
    · (intro ρ hρ; have rc : ∀ v, ρ (.const v) = v := fun v => hρ _; have r177 := (hρ _).trans e177; have r182 := (hρ _).trans e182; simp [go_sem, rc, r177, r182] <;> with_reducible rfl)
    intro a N; have sz := N.s sz; have df := N.d df; have e0 := N.o e0; have e1 := N.o e1; have e5 := N.o e5; have e6 := N.o e6; have e7 := N.o e7; have e183 := N.new
    refine tn (d := 184) (v := ?_) sz ?_ ?_
    rotate_left 1
    · (intro ρ hρ; have r183 := (hρ _).trans e183; simp [go_sem, r183] <;> with_reducible rfl)
    intro a N; have sz := N.s sz; have df := N.d df; have e0 := N.o e0; have e1 := N.o e1; have e5 := N.o e5; have e6 := N.o e6; have e7 := N.o e7; have e184 := N.new
    refine sk (d := 185) sz (wanted_is rfl rfl e184 rfl) ?_
    intro a N; have sz := N.s sz; have df := N.d df; have e0 := N.o e0; have e1 := N.o e1; have e5 := N.o e5; have e6 := N.o e6; have e7 := N.o e7; have e184 := N.o e184; have e185 := N.new
    refine sk (d := 186) sz (wanted_is rfl rfl e184 rfl) ?_
    intro a N; have sz := N.s sz; have df := N.d df; have e0 := N.o e0; have e1 := N.o e1; have e5 := N.o e5; have e6 := N.o e6; have e7 := N.o e7; have e184 := N.o e184; have e186 := N.new
    refine sk (d := 187) sz (wanted_is rfl rfl e184 rfl) ?_
    intro a N; have sz := N.s sz; have df := N.d df; have e0 := N.o e0; have e1 := N.o e1; have e5 := N.o e5; have e6 := N.o e6; have e7 := N.o e7; have e184 := N.o e184; have e186 := N.o e186; have e187 := N.new
    refine sk (d := 188) sz (wanted_is rfl rfl e184 rfl) ?_
    intro a N; have sz := N.s sz; have df := N.d df; have e0 := N.o e0; have e1 := N.o e1; have e5 := N.o e5; have e6 := N.o e6; have e7 := N.o e7; have e184 := N.o e184; have e186 := N.o e186; have e188 := N.new
    refine sk (d := 189) sz (wanted_is rfl rfl e184 rfl) ?_
    intro a N; have sz := N.s sz; have df := N.d df; have e0 := N.o e0; have e1 := N.o e1; have e5 := N.o e5; have e6 := N.o e6; have e7 := N.o e7; have e184 := N.o e184; have e189 := N.new
    refine tn (d := 190) (v := ?_) sz ?_ ?_
    rotate_left 1
    · (intro ρ hρ; have rc : ∀ v, ρ (.const v) = v := fun v => hρ _; have r184 := (hρ _).trans e184; have r189 := (hρ _).trans e189; simp [go_sem, rc, r184, r189] <;> with_reducible rfl)
    intro a N; have sz := N.s sz; have df := N.d df; have e0 := N.o e0; have e1 := N.o e1; have e5 := N.o e5; have e6 := N.o e6; have e7 := N.o e7; have e190 := N.new
    refine tn (d := 191) (v := ?_) sz ?_ ?_
    rotate_left 1
    · (intro ρ hρ; have r190 := (hρ _).trans e190; simp [go_sem, r190] <;> with_reducible rfl)
    intro a N; have sz := N.s sz; have df := N.d df; have e0 := N.o e0; have e1 := N.o e1; have e5 := N.o e5; have e6 := N.o e6; have e7 := N.o e7; have e191 := N.new
    refine sk (d := 192) sz (wanted_is rfl rfl e191 rfl) ?_
    intro a N; have sz := N.s sz; have df := N.d df; have e0 := N.o e0; have e1 := N.o e1; have e5 := N.o e5; have e6 := N.o e6; have e7 := N.o e7; have e191 := N.o e191; have e192 := N.new
    refine sk (d := 193) sz (wanted_is rfl rfl e191 rfl) ?_
    intro a N; have sz := N.s sz; have df := N.d df; have e0 := N.o e0; have e1 := N.o e1; have e5 := N.o e5; have e6 := N.o e6; have e7 := N.o e7; have e191 := N.o e191; have e193 := N.new
    refine sk (d := 194) sz (wanted_is rfl rfl e191 rfl) ?_
    intro a N; have sz := N.s sz; have df := N.d df; have e0 := N.o e0; have e1 := N.o e1; have e5 := N.o e5; have e6 := N.o e6; have e7 := N.o e7; have e191 := N.o e191; have e193 := N.o e193; have e194 := N.new
    refine sk (d := 195) sz (wanted_is rfl rfl e191 rfl) ?_
    intro a N; have sz := N.s sz; have df := N.d df; have e0 := N.o e0; have e1 := N.o e1; have e5 := N.o e5; have e6 := N.o e6; have e7 := N.o e7; have e191 := N.o e191; have e193 := N.o e193; have e195 := N.new
    refine sk (d := 196) sz (wanted_is rfl rfl e191 rfl) ?_
    intro a N; have sz := N.s sz; have df := N.d df; have e0 := N.o e0; have e1 := N.o e1; have e5 := N.o e5; have e6 := N.o e6; have e7 := N.o e7; have e191 := N.o e191; have e196 := N.new
    refine tn (d := 197) (v := ?_) sz ?_ ?_
    rotate_left 1
    · (intro ρ hρ; have rc : ∀ v, ρ (.const v) = v := fun v => hρ _; have r191 := (hρ _).trans e191; have r196 := (hρ _).trans e196; simp [go_sem, rc, r191, r196] <;> with_reducible rfl)
    intro a N; have sz := N.s sz; have df := N.d df; have e0 := N.o e0; have e1 := N.o e1; have e5 := N.o e5; have e6 := N.o e6; have e7 := N.o e7; have e197 := N.new
    refine tn (d := 198) (v := ?_) sz ?_ ?_
    rotate_left 1
    · (intro ρ hρ; have r197 := (hρ _).trans e197; simp [go_sem, r197] <;> with_reducible rfl)
    intro a N; have sz := N.s sz; have df := N.d df; have e0 := N.o e0; have e1 := N.o e1; have e5 := N.o e5; have e6 := N.o e6; have e7 := N.o e7; have e198 := N.new
    refine sk (d := 199) sz (wanted_is rfl rfl e198 rfl) ?_
    intro a N; have sz := N.s sz; have df := N.d df; have e0 := N.o e0; have e1 := N.o e1; have e5 := N.o e5; have e6 := N.o e6; have e7 := N.o e7; have e198 := N.o e198; have e199 := N.new
    refine sk (d := 200) sz (wanted_is rfl rfl e198 rfl) ?_
    intro a N; have sz := N.s sz; have df := N.d df; have e0 := N.o e0; have e1 := N.o e1; have e5 := N.o e5; have e6 := N.o e6; have e7 := N.o e7; have e198 := N.o e198; have e200 := N.new
    refine sk (d := 201) sz (wanted_is rfl rfl e198 rfl) ?_
    intro a N; have sz := N.s sz; have df := N.d df; have e0 := N.o e0; have e1 := N.o e1; have e5 := N.o e5; have e6 := N.o e6; have e7 := N.o e7; have e198 := N.o e198; have e200 := N.o e200; have e201 := N.new
    refine sk (d := 202) sz (wanted_is rfl rfl e198 rfl) ?_
    intro a N; have sz := N.s sz; have df := N.d df; have e0 := N.o e0; have e1 := N.o e1; have e5 := N.o e5; have e6 := N.o e6; have e7 := N.o e7; have e198 := N.o e198; have e200 := N.o e200; have e202 := N.new
    refine sk (d := 203) sz (wanted_is rfl rfl e198 rfl) ?_
    intro a N; have sz := N.s sz; have df := N.d df; have e0 := N.o e0; have e1 := N.o e1; have e5 := N.o e5; have e6 := N.o e6; have e7 := N.o e7; have e198 := N.o e198; have e203 := N.new
    refine tn (d := 204) (v := ?_) sz ?_ ?_
    rotate_left 1
    · (intro ρ hρ; have rc : ∀ v, ρ (.const v) = v := fun v => hρ _; have r198 := (hρ _).trans e198; have r203 := (hρ _).trans e203; simp [go_sem, rc, r198, r203] <;> with_reducible rfl)
    intro a N; have sz := N.s sz; have df := N.d df; have e0 := N.o e0; have e1 := N.o e1; have e5 := N.o e5; have e6 := N.o e6; have e7 := N.o e7; have e204 := N.new
    refine tn (d := 205) (v := ?_) sz ?_ ?_
    rotate_left 1
    · (intro ρ hρ; have r204 := (hρ _).trans e204; simp [go_sem, r204] <;> with_reducible rfl)
    intro a N; have sz := N.s sz; have df := N.d df; have e0 := N.o e0; have e1 := N.o e1; have e5 := N.o e5; have e6 := N.o e6; have e7 := N.o e7; have e205 := N.new
    refine sk (d := 206) sz (wanted_is rfl rfl e205 rfl) ?_
    intro a N; have sz := N.s sz; have df := N.d df; have e0 := N.o e0; have e1 := N.o e1; have e5 := N.o e5; have e6 := N.o e6; have e7 := N.o e7; have e205 := N.o e205; have e206 := N.new
    refine sk (d := 207) sz (wanted_is rfl rfl e205 rfl) ?_
    intro a N; have sz := N.s sz; have df := N.d df; have e0 := N.o e0; have e1 := N.o e1; have e5 := N.o e5; have e6 := N.o e6; have e7 := N.o e7; have e205 := N.o e205; have e207 := N.new
    refine sk (d := 208) sz (wanted_is rfl rfl e205 rfl) ?_
    intro a N; have sz := N.s sz; have df := N.d df; have e0 := N.o e0; have e1 := N.o e1; have e5 := N.o e5; have e6 := N.o e6; have e7 := N.o e7; have e205 := N.o e205; have e207 := N.o e207; have e208 := N.new
    refine sk (d := 209) sz (wanted_is rfl rfl e205 rfl) ?_
    intro a N; have sz := N.s sz; have df := N.d df; have e0 := N.o e0; have e1 := N.o e1; have e5 := N.o e5; have e6 := N.o e6; have e7 := N.o e7; have e205 := N.o e205; have e207 := N.o e207; have e209 := N.new
    refine sk (d := 210) sz (wanted_is rfl rfl e205 rfl) ?_
    intro a N; have sz := N.s sz; have df := N.d df; have e0 := N.o e0; have e1 := N.o e1; have e5 := N.o e5; have e6 := N.o e6; have e7 := N.o e7; have e205 := N.o e205; have e210 := N.new
    refine tn (d := 211) (v := ?_) sz ?_ ?_
    rotate_left 1
    · (intro ρ hρ; have rc : ∀ v, ρ (.const v) = v := fun v => hρ _; have r205 := (hρ _).trans e205; have r210 := (hρ _).trans e210; simp [go_sem, rc, r205, r210] <;> with_reducible rfl)
    intro a N; have sz := N.s sz; have df := N.d df; have e0 := N.o e0; have e1 := N.o e1; have e5 := N.o e5; have e6 := N.o e6; have e7 := N.o e7; have e211 := N.new
    refine tn (d := 212) (v := ?_) sz ?_ ?_
    rotate_left 1
    · (intro ρ hρ; have r211 := (hρ _).trans e211; simp [go_sem, r211] <;> with_reducible rfl)
    intro a N; have sz := N.s sz; have df := N.d df; have e0 := N.o e0; have e1 := N.o e1; have e5 := N.o e5; have e6 := N.o e6; have e7 := N.o e7; have e212 := N.new
    refine sk (d := 213) sz (wanted_is rfl rfl e212 rfl) ?_
    intro a N; have sz := N.s sz; have df := N.d df; have e0 := N.o e0; have e1 := N.o e1; have e5 := N.o e5; have e6 := N.o e6; have e7 := N.o e7; have e212 := N.o e212; have e213 := N.new
    refine sk (d := 214) sz (wanted_is rfl rfl e212 rfl) ?_
    intro a N; have sz := N.s sz; have df := N.d df; have e0 := N.o e0; have e1 := N.o e1; have e5 := N.o e5; have e6 := N.o e6; have e7 := N.o e7; have e212 := N.o e212; have e214 := N.new
    refine sk (d := 215) sz (wanted_is rfl rfl e212 rfl) ?_
    intro a N; have sz := N.s sz; have df := N.d df; have e0 := N.o e0; have e1 := N.o e1; have e5 := N.o e5; have e6 := N.o e6; have e7 := N.o e7; have e212 := N.o e212; have e214 := N.o e214; have e215 := N.new
    refine sk (d := 216) sz (wanted_is rfl rfl e212 rfl) ?_
    intro a N; have sz := N.s sz; have df := N.d df; have e0 := N.o e0; have e1 := N.o e1; have e5 := N.o e5; have e6 := N.o e6; have e7 := N.o e7; have e212 := N.o e212; have e214 := N.o e214; have e216 := N.new
    refine sk (d := 217) sz (wanted_is rfl rfl e212 rfl) ?_
    intro a N; have sz := N.s sz; have df := N.d df; have e0 := N.o e0; have e1 := N.o e1; have e5 := N.o e5; have e6 := N.o e6; have e7 := N.o e7; have e212 := N.o e212; have e217 := N.new
    refine tn (d := 218) (v := ?_) sz ?_ ?_
    rotate_left 1
    · (intro ρ hρ; have rc : ∀ v, ρ (.const v) = v := fun v => hρ _; have r212 := (hρ _).trans e212; have r217 := (hρ _).trans e217; simp [go_sem, rc, r212, r217] <;> with_reducible rfl)
    intro a N; have sz := N.s sz; have df := N.d df; have e0 := N.o e0; have e1 := N.o e1; have e5 := N.o e5; have e6 := N.o e6; have e7 := N.o e7; have e218 := N.new
    refine tn (d := 219) (v := ?_) sz ?_ ?_
    rotate_left 1
    · (intro ρ hρ; have r218 := (hρ _).trans e218; simp [go_sem, r218] <;> with_reducible rfl)
    intro a N; have sz := N.s sz; have df := N.d df; have e0 := N.o e0; have e1 := N.o e1; have e5 := N.o e5; have e6 := N.o e6; have e7 := N.o e7; have e219 := N.new
    refine sk (d := 220) sz (wanted_is rfl rfl e219 rfl) ?_
    intro a N; have sz := N.s sz; have df := N.d df; have e0 := N.o e0; have e1 := N.o e1; have e5 := N.o e5; have e6 := N.o e6; have e7 := N.o e7; have e219 := N.o e219; have e220 := N.new
    refine sk (d := 221) sz (wanted_is rfl rfl e219 rfl) ?_
    intro a N; have sz := N.s sz; have df := N.d df; have e0 := N.o e0; have e1 := N.o e1; have e5 := N.o e5; have e6 := N.o e6; have e7 := N.o e7; have e219 := N.o e219; have e221 := N.new
    refine sk (d := 222) sz (wanted_is rfl rfl e219 rfl) ?_
    intro a N; have sz := N.s sz; have df := N.d df; have e0 := N.o e0; have e1 := N.o e1; have e5 := N.o e5; have e6 := N.o e6; have e7 := N.o e7; have e219 := N.o e219; have e221 := N.o e221; have e222 := N.new
    refine sk (d := 223) sz (wanted_is rfl rfl e219 rfl) ?_
    intro a N; have sz := N.s sz; have df := N.d df; have e0 := N.o e0; have e1 := N.o e1; have e5 := N.o e5; have e6 := N.o e6; have e7 := N.o e7; have e219 := N.o e219; have e221 := N.o e221; have e223 := N.new
    refine sk (d := 224) sz (wanted_is rfl rfl e219 rfl) ?_
    intro a N; have sz := N.s sz; have df := N.d df; have e0 := N.o e0; have e1 := N.o e1; have e5 := N.o e5; have e6 := N.o e6; have e7 := N.o e7; have e219 := N.o e219; have e224 := N.new
    refine tn (d := 225) (v := ?_) sz ?_ ?_
    rotate_left 1
    · (intro ρ hρ; have rc : ∀ v, ρ (.const v) = v := fun v => hρ _; have r219 := (hρ _).trans e219; have r224 := (hρ _).trans e224; simp [go_sem, rc, r219, r224] <;> with_reducible rfl)
    intro a N; have sz := N.s sz; have df := N.d df; have e0 := N.o e0; have e1 := N.o e1; have e5 := N.o e5; have e6 := N.o e6; have e7 := N.o e7; have e225 := N.new
    refine tn (d := 226) (v := ?_) sz ?_ ?_
    rotate_left 1
    · (intro ρ hρ; have r225 := (hρ _).trans e225; simp [go_sem, r225] <;> with_reducible rfl)
    intro a N; have sz := N.s sz; have df := N.d df; have e0 := N.o e0; have e1 := N.o e1; have e5 := N.o e5; have e6 := N.o e6; have e7 := N.o e7; have e226 := N.new
    refine sk (d := 227) sz (wanted_is rfl rfl e226 rfl) ?_
    intro a N; have sz := N.s sz; have df := N.d df; have e0 := N.o e0; have e1 := N.o e1; have e5 := N.o e5; have e7 := N.o e7; have e226 := N.o e226; have e227 := N.new
    refine sk (d := 228) sz (wanted_is rfl rfl e226 rfl) ?_
    intro a N; have sz := N.s sz; have df := N.d df; have e0 := N.o e0; have e1 := N.o e1; have e5 := N.o e5; have e7 := N.o e7; have e226 := N.o e226; have e228 := N.new
    refine sk (d := 229) sz (wanted_is rfl rfl e226 rfl) ?_
    intro a N; have sz := N.s sz; have df := N.d df; have e0 := N.o e0; have e1 := N.o e1; have e5 := N.o e5; have e226 := N.o e226; have e228 := N.o e228; have e229 := N.new
    refine sk (d := 230) sz (wanted_is rfl rfl e226 rfl) ?_
    intro a N; have sz := N.s sz; have df := N.d df; have e0 := N.o e0; have e1 := N.o e1; have e5 := N.o e5; have e226 := N.o e226; have e228 := N.o e228; have e230 := N.new
    refine sk (d := 231) sz (wanted_is rfl rfl e226 rfl) ?_
    intro a N; have sz := N.s sz; have df := N.d df; have e0 := N.o e0; have e1 := N.o e1; have e5 := N.o e5; have e226 := N.o e226; have e231 := N.new
    refine sk (d := 232) sz (wanted_is rfl rfl e226 rfl) ?_
    intro a N; have sz := N.s sz; have df := N.d df; have e0 := N.o e0; have e1 := N.o e1; have e5 := N.o e5; have e226 := N.o e226; have e232 := N.new
    refine tn (d := 233) (v := ?_) sz ?_ ?_
    rotate_left 1
    · (intro ρ hρ; have rc : ∀ v, ρ (.const v) = v := fun v => hρ _; have r226 := (hρ _).trans e226; have r232 := (hρ _).trans e232; simp [go_sem, rc, r226, r232] <;> with_reducible rfl)
    intro a N; have sz := N.s sz; have df := N.d df; have e0 := N.o e0; have e1 := N.o e1; have e5 := N.o e5; have e233 := N.new
    exact h _ w true ⟨sz, df, e0, e1⟩ e5 e233 ⟨fun h => (by cases h), fun h => absurd (congrArg (fun z => z.1) h) hf0⟩ (Keep.refl _ w)
  subst hf0
  refine tn (d := 169) (v := ?_) sz ?_ ?_
  rotate_left 1
  · (intro ρ hρ; have r166 := (hρ _).trans e166; have r168 := (hρ _).trans e168; simp [go_sem, r166, r168] <;> with_reducible rfl)
  intro a N; have sz := N.s sz; have df := N.d df; have e0 := N.o e0; have e1 := N.o e1; have e5 := N.o e5; have e6 := N.o e6; have e7 := N.o e7; have e169 := N.new
  refine tn (d := 170) (v := ?_) sz ?_ ?_
  rotate_left 1
  · (intro ρ hρ; have r169 := (hρ _).trans e169; simp [go_sem, r169] <;> with_reducible rfl)
  intro a N; have sz := N.s sz; have df := N.d df; have e0 := N.o e0; have e1 := N.o e1; have e5 := N.o e5; have e6 := N.o e6; have e7 := N.o e7; have e170 := N.new
  refine tk (d := 171) (v := ?_) sz (wanted_is rfl rfl e170 rfl) ?_ ?_
  rotate_left 1
  · (intro ρ hρ; have r6 := (hρ _).trans e6; simp [go_sem, r6] <;> with_reducible rfl)
  intro a N; have sz := N.s sz; have df := N.d df; have e0 := N.o e0; have e1 := N.o e1; have e5 := N.o e5; have e6 := N.o e6; have e7 := N.o e7; have e170 := N.o e170; have e171 := N.new
  refine tk (d := 172) (v := ?_) sz (wanted_is rfl rfl e170 rfl) ?_ ?_
  rotate_left 1
  · (intro ρ hρ; have r171 := (hρ _).trans e171; simp [go_sem, r171, c1] <;> with_reducible rfl)
  intro a N; have sz := N.s sz; have df := N.d df; have e0 := N.o e0; have e1 := N.o e1; have e5 := N.o e5; have e6 := N.o e6; have e7 := N.o e7; have e170 := N.o e170; have e172 := N.new
  refine tk (d := 173) (v := ?_) sz (wanted_is rfl rfl e170 rfl) ?_ ?_
  rotate_left 1
  · (intro ρ hρ; have r7 := (hρ _).trans e7; simp [go_sem, r7] <;> with_reducible rfl)
  intro a N; have sz := N.s sz; have df := N.d df; have e0 := N.o e0; have e1 := N.o e1; have e5 := N.o e5; have e6 := N.o e6; have e7 := N.o e7; have e170 := N.o e170; have e172 := N.o e172; have e173 := N.new
  refine tk (d := 174) (v := ?_) sz (wanted_is rfl rfl e170 rfl) ?_ ?_
  rotate_left 1
  · (intro ρ hρ; have r173 := (hρ _).trans e173; simp [go_sem, r173, d1] <;> with_reducible rfl)
  intro a N; have sz := N.s sz; have df := N.d df; have e0 := N.o e0; have e1 := N.o e1; have e5 := N.o e5; have e6 := N.o e6; have e7 := N.o e7; have e170 := N.o e170; have e172 := N.o e172; have e174 := N.new
  by_cases hf1 : f1 = r1
  rotate_left 1
  · have hq : (f1.toList == r1.toList) = false := str_ne hf1
    refine tk (d := 175) (v := ?_) sz (wanted_is rfl rfl e170 rfl) ?_ ?_
    rotate_left 1
    · (intro ρ hρ; have r172 := (hρ _).trans e172; have r174 := (hρ _).trans e174; simp [go_sem, r172, r174, hq] <;> with_reducible rfl)
    intro a N; have sz := N.s sz; have df := N.d df; have e0 := N.o e0; have e1 := N.o e1; have e5 := N.o e5; have e6 := N.o e6; have e7 := N.o e7; have e170 := N.o e170; have e175 := N.new
    refine tn (d := 176) (v := ?_) sz ?_ ?_
    rotate_left 1
    · (intro ρ hρ; have rc : ∀ v, ρ (.const v) = v := fun v => hρ _; have r170 := (hρ _).trans e170; have r175 := (hρ _).trans e175; simp [go_sem, rc, r170, r175] <;> with_reducible rfl)
    intro a N; have sz := N.s sz; have df := N.d df; have e0 := N.o e0; have e1 := N.o e1; have e5 := N.o e5; have e6 := N.o e6; have e7 := N.o e7; have e176 := N.new
    refine tn (d := 177) (v := ?_) sz ?_ ?_
    rotate_left 1
    · (intro ρ hρ; have r176 := (hρ _).trans e176; simp [go_sem, r176] <;> with_reducible rfl)
    intro a N; have sz := N.s sz; have df := N.d df; have e0 := N.o e0; have e1 := N.o e1; have e5 := N.o e5; have e6 := N.o e6; have e7 := N.o e7; have e177 := N.new
    refine sk (d := 178) sz (wanted_is rfl rfl e177 rfl) ?_
    intro a N; have sz := N.s sz; have df := N.d df; have e0 := N.o e0; have e1 := N.o e1; have e5 := N.o e5; have e6 := N.o e6; have e7 := N.o e7; have e177 := N.o e177; have e178 := N.new
    refine sk (d := 179) sz (wanted_is rfl rfl e177 rfl) ?_
    intro a N; have sz := N.s sz; have df := N.d df; have e0 := N.o e0; have e1 := N.o e1; have e5 := N.o e5; have e6 := N.o e6; have e7 := N.o e7; have e177 := N.o e177; have e179 := N.new
    refine sk (d := 180) sz (wanted_is rfl rfl e177 rfl) ?_
    intro a N; have sz := N.s sz; have df := N.d df; have e0 := N.o e0; have e1 := N.o e1; have e5 := N.o e5; have e6 := N.o e6; have e7 := N.o e7; have e177 := N.o e177; have e179 := N.o e179; have e180 := N.new
    refine sk (d := 181) sz (wanted_is rfl rfl e177 rfl) ?_
    intro a N; have sz := N.s sz; have df := N.d df; have e0 := N.o e0; have e1 := N.o e1; have e5 := N.o e5; have e6 := N.o e6; have e7 := N.o e7; have e177 := N.o e177; have e179 := N.o e179; have e181 := N.new
    refine sk (d := 182) sz (wanted_is rfl rfl e177 rfl) ?_
    intro a N; have sz := N.s sz; have df := N.d df; have e0 := N.o e0; have e1 := N.o e1; have e5 := N.o e5; have e6 := N.o e6; have e7 := N.o e7; have e177 := N.o e177; have e182 := N.new
    refine tn (d := 183) (v := ?_) sz ?_ ?_
    rotate_left 1
    · (intro ρ hρ; have rc : ∀ v, ρ (.const v) = v := fun v => hρ _; have r177 := (hρ _).trans e177; have r182 := (hρ _).trans e182; simp [go_sem, rc, r177, r182] <;> with_reducible rfl)
    intro a N; have sz := N.s sz; have df := N.d df; have e0 := N.o e0; have e1 := N.o e1; have e5 := N.o e5; have e6 := N.o e6; have e7 := N.o e7; have e183 := N.new
    refine tn (d := 184) (v := ?_) sz ?_ ?_
    rotate_left 1
    · (intro ρ hρ; have r183 := (hρ _).trans e183; simp [go_sem, r183] <;> with_reducible rfl)
    intro a N; have sz := N.s sz; have df := N.d df; have e0 := N.o e0; have e1 := N.o e1; have e5 := N.o e5; have e6 := N.o e6; have e7 := N.o e7; have e184 := N.new
    refine sk (d := 185) sz (wanted_is rfl rfl e184 rfl) ?_
    intro a N; have sz := N.s sz; have df := N.d df; have e0 := N.o e0; have e1 := N.o e1; have e5 := N.o e5; have e6 := N.o e6; have e7 := N.o e7; have e184 := N.o e184; have e185 := N.new
    refine sk (d := 186) sz (wanted_is rfl rfl e184 rfl) ?_
    intro a N; have sz := N.s sz; have df := N.d df; have e0 := N.o e0; have e1 := N.o e1; have e5 := N.o e5; have e6 := N.o e6; have e7 := N.o e7; have e184 := N.o e184; have e186 := N.new
    refine sk (d := 187) sz (wanted_is rfl rfl e184 rfl) ?_
    intro a N; have sz := N.s sz; have df := N.d df; have e0 := N.o e0; have e1 := N.o e1; have e5 := N.o e5; have e6 := N.o e6; have e7 := N.o e7; have e184 := N.o e184; have e186 := N.o e186; have e187 := N.new
    refine sk (d := 188) sz (wanted_is rfl rfl e184 rfl) ?_
    intro a N; have sz := N.s sz; have df := N.d df; have e0 := N.o e0; have e1 := N.o e1; have e5 := N.o e5; have e6 := N.o e6; have e7 := N.o e7; have e184 := N.o e184; have e186 := N.o e186; have e188 := N.new
    refine sk (d := 189) sz (wanted_is rfl rfl e184 rfl) ?_
    intro a N; have sz := N.s sz; have df := N.d df; have e0 := N.o e0; have e1 := N.o e1; have e5 := N.o e5; have e6 := N.o e6; have e7 := N.o e7; have e184 := N.o e184; have e189 := N.new
    refine tn (d := 190) (v := ?_) sz ?_ ?_
    rotate_left 1
    · (intro ρ hρ; have rc : ∀ v, ρ (.const v) = v := fun v => hρ _; have r184 := (hρ _).trans e184; have r189 := (hρ _).trans e189; simp [go_sem, rc, r184, r189] <;> with_reducible rfl)
    intro a N; have sz := N.s sz; have df := N.d df; have e0 := N.o e0; have e1 := N.o e1; have e5 := N.o e5; have e6 := N.o e6; have e7 := N.o e7; have e190 := N.new
    refine tn (d := 191) (v := ?_) sz ?_ ?_
    rotate_left 1
    · (intro ρ hρ; have r190 := (hρ _).trans e190; simp [go_sem, r190] <;> with_reducible rfl)
    intro a N; have sz := N.s sz; have df := N.d df; have e0 := N.o e0; have e1 := N.o e1; have e5 := N.o e5; have e6 := N.o e6; have e7 := N.o e7; have e191 := N.new
    refine sk (d := 192) sz (wanted_is rfl rfl e191 rfl) ?_
    intro a N; have sz := N.s sz; have df := N.d df; have e0 := N.o e0; have e1 := N.o e1; have e5 := N.o e5; have e6 := N.o e6; have e7 := N.o e7; have e191 := N.o e191; have e192 := N.new
    refine sk (d := 193) sz (wanted_is rfl rfl e191 rfl) ?_
    intro a N; have sz := N.s sz; have df := N.d df; have e0 := N.o e0; have e1 := N.o e1; have e5 := N.o e5; have e6 := N.o e6; have e7 := N.o e7; have e191 := N.o e191; have e193 := N.new
    refine sk (d := 194) sz (wanted_is rfl rfl e191 rfl) ?_
    intro a N; have sz := N.s sz; have df := N.d df; have e0 := N.o e0; have e1 := N.o e1; have e5 := N.o e5; have e6 := N.o e6; have e7 := N.o e7; have e191 := N.o e191; have e193 := N.o e193; have e194 := N.new
    refine sk (d := 195) sz (wanted_is rfl rfl e191 rfl) ?_
    intro a N; have sz := N.s sz; have df := N.d df; have e0 := N.o e0; have e1 := N.o e1; have e5 := N.o e5; have e6 := N.o e6; have e7 := N.o e7; have e191 := N.o e191; have e193 := N.o e193; have e195 := N.new
    refine sk (d := 196) sz (wanted_is rfl rfl e191 rfl) ?_
    intro a N; have sz := N.s sz; have df := N.d df; have e0 := N.o e0; have e1 := N.o e1; have e5 := N.o e5; have e6 := N.o e6; have e7 := N.o e7; have e191 := N.o e191; have e196 := N.new
    refine tn (d := 197) (v := ?_) sz ?_ ?_
    rotate_left 1
    · (intro ρ hρ; have rc : ∀ v, ρ (.const v) = v := fun v => hρ _; have r191 := (hρ _).trans e191; have r196 := (hρ _).trans e196; simp [go_sem, rc, r191, r196] <;> with_reducible rfl)
    intro a N; have sz := N.s sz; have df := N.d df; have e0 := N.o e0; have e1 := N.o e1; have e5 := N.o e5; have e6 := N.o e6; have e7 := N.o e7; have e197 := N.new
    refine tn (d := 198) (v := ?_) sz ?_ ?_
    rotate_left 1
    · (intro ρ hρ; have r197 := (hρ _).trans e197; simp [go_sem, r197] <;> with_reducible rfl)
    intro a N; have sz := N.s sz; have df := N.d df; have e0 := N.o e0; have e1 := N.o e1; have e5 := N.o e5; have e6 := N.o e6; have e7 := N.o e7; have e198 := N.new
    refine sk (d := 199) sz (wanted_is rfl rfl e198 rfl) ?_
    intro a N; have sz := N.s sz; have df := N.d df; have e0 := N.o e0; have e1 := N.o e1; have e5 := N.o e5; have e6 := N.o e6; have e7 := N.o e7; have e198 := N.o e198; have e199 := N.new
    refine sk (d := 200) sz (wanted_is rfl rfl e198 rfl) ?_
    intro a N; have sz := N.s sz; have df := N.d df; have e0 := N.o e0; have e1 := N.o e1; have e5 := N.o e5; have e6 := N.o e6; have e7 := N.o e7; have e198 := N.o e198; have e200 := N.new
    refine sk (d := 201) sz (wanted_is rfl rfl e198 rfl) ?_
    intro a N; have sz := N.s sz; have df := N.d df; have e0 := N.o e0; have e1 := N.o e1; have e5 := N.o e5; have e6 := N.o e6; have e7 := N.o e7; have e198 := N.o e198; have e200 := N.o e200; have e201 := N.new
    refine sk (d := 202) sz (wanted_is rfl rfl e198 rfl) ?_
    intro a N; have sz := N.s sz; have df := N.d df; have e0 := N.o e0; have e1 := N.o e1; have e5 := N.o e5; have e6 := N.o e6; have e7 := N.o e7; have e198 := N.o e198; have e200 := N.o e200; have e202 := N.new
    refine sk (d := 203) sz (wanted_is rfl rfl e198 rfl) ?_
    intro a N; have sz := N.s sz; have df := N.d df; have e0 := N.o e0; have e1 := N.o e1; have e5 := N.o e5; have e6 := N.o e6; have e7 := N.o e7; have e198 := N.o e198; have e203 := N.new
    refine tn (d := 204) (v := ?_) sz ?_ ?_
    rotate_left 1
    · (intro ρ hρ; have rc : ∀ v, ρ (.const v) = v := fun v => hρ _; have r198 := (hρ _).trans e198; have r203 := (hρ _).trans e203; simp [go_sem, rc, r198, r203] <;> with_reducible rfl)
    intro a N; have sz := N.s sz; have df := N.d df; have e0 := N.o e0; have e1 := N.o e1; have e5 := N.o e5; have e6 := N.o e6; have e7 := N.o e7; have e204 := N.new
    refine tn (d := 205) (v := ?_) sz ?_ ?_
    rotate_left 1
    · (intro ρ hρ; have r204 := (hρ _).trans e204; simp [go_sem, r204] <;> with_reducible rfl)
    intro a N; have sz := N.s sz; have df := N.d df; have e0 := N.o e0; have e1 := N.o e1; have e5 := N.o e5; have e6 := N.o e6; have e7 := N.o e7; have e205 := N.new
    refine sk (d := 206) sz (wanted_is rfl rfl e205 rfl) ?_
    intro a N; have sz := N.s sz; have df := N.d df; have e0 := N.o e0; have e1 := N.o e1; have e5 := N.o e5; have e6 := N.o e6; have e7 := N.o e7; have e205 := N.o e205; have e206 := N.new
    refine sk (d := 207) sz (wanted_is rfl rfl e205 rfl) ?_
    intro a N; have sz := N.s sz; have df := N.d df; have e0 := N.o e0; have e1 := N.o e1; have e5 := N.o e5; have e6 := N.o e6; have e7 := N.o e7; have e205 := N.o e205; have e207 := N.new
    refine sk (d := 208) sz (wanted_is rfl rfl e205 rfl) ?_
    intro a N; have sz := N.s sz; have df := N.d df; have e0 := N.o e0; have e1 := N.o e1; have e5 := N.o e5; have e6 := N.o e6; have e7 := N.o e7; have e205 := N.o e205; have e207 := N.o e207; have e208 := N.new
    refine sk (d := 209) sz (wanted_is rfl rfl e205 rfl) ?_
    intro a N; have sz := N.s sz; have df := N.d df; have e0 := N.o e0; have e1 := N.o e1; have e5 := N.o e5; have e6 := N.o e6; have e7 := N.o e7; have e205 := N.o e205; have e207 := N.o e207; have e209 := N.new
    refine sk (d := 210) sz (wanted_is rfl rfl e205 rfl) ?_
    intro a N; have sz := N.s sz; have df := N.d df; have e0 := N.o e0; have e1 := N.o e1; have e5 := N.o e5; have e6 := N.o e6; have e7 := N.o e7; have e205 := N.o e205; have e210 := N.new
    refine tn (d := 211) (v := ?_) sz ?_ ?_
    rotate_left 1
    · (intro ρ hρ; have rc : ∀ v, ρ (.const v) = v := fun v => hρ _; have r205 := (hρ _).trans e205; have r210 := (hρ _).trans e210; simp [go_sem, rc, r205, r210] <;> with_reducible rfl)
    intro a N; have sz := N.s sz; have df := N.d df; have e0 := N.o e0; have e1 := N.o e1; have e5 := N.o e5; have e6 := N.o e6; have e7 := N.o e7; have e211 := N.new
    refine tn (d := 212) (v := ?_) sz ?_ ?_
    rotate_left 1
    · (intro ρ hρ; have r211 := (hρ _).trans e211; simp [go_sem, r211] <;> with_reducible rfl)
    intro a N; have sz := N.s sz; have df := N.d df; have e0 := N.o e0; have e1 := N.o e1; have e5 := N.o e5; have e6 := N.o e6; have e7 := N.o e7; have e212 := N.new
    refine sk (d := 213) sz (wanted_is rfl rfl e212 rfl) ?_
    intro a N; have sz := N.s sz; have df := N.d df; have e0 := N.o e0; have e1 := N.o e1; have e5 := N.o e5; have e6 := N.o e6; have e7 := N.o e7; have e212 := N.o e212; have e213 := N.new
    refine sk (d := 214) sz (wanted_is rfl rfl e212 rfl) ?_
    intro a N; have sz := N.s sz; have df := N.d df; have e0 := N.o e0; have e1 := N.o e1; have e5 := N.o e5; have e6 := N.o e6; have e7 := N.o e7; have e212 := N.o e212; have e214 := N.new
    refine sk (d := 215) sz (wanted_is rfl rfl e212 rfl) ?_
    intro a N; have sz := N.s sz; have df := N.d df; have e0 := N.o e0; have e1 := N.o e1; have e5 := N.o e5; have e6 := N.o e6; have e7 := N.o e7; have e212 := N.o e212; have e214 := N.o e214; have e215 := N.new
    refine sk (d := 216) sz (wanted_is rfl rfl e212 rfl) ?_
    intro a N; have sz := N.s sz; have df := N.d df; have e0 := N.o e0; have e1 := N.o e1; have e5 := N.o e5; have e6 := N.o e6; have e7 := N.o e7; have e212 := N.o e212; have e214 := N.o e214; have e216 := N.new
    refine sk (d := 217) sz (wanted_is rfl rfl e212 rfl) ?_
    intro a N; have sz := N.s sz; have df := N.d df; have e0 := N.o e0; have e1 := N.o e1; have e5 := N.o e5; have e6 := N.o e6; have e7 := N.o e7; have e212 := N.o e212; have e217 := N.new
    refine tn (d := 218) (v := ?_) sz ?_ ?_
    rotate_left 1
    · (intro ρ hρ; have rc : ∀ v, ρ (.const v) = v := fun v => hρ _; have r212 := (hρ _).trans e212; have r217 := (hρ _).trans e217; simp [go_sem, rc, r212, r217] <;> with_reducible rfl)
    intro a N; have sz := N.s sz; have df := N.d df; have e0 := N.o e0; have e1 := N.o e1; have e5 := N.o e5; have e6 := N.o e6; have e7 := N.o e7; have e218 := N.new
    refine tn (d := 219) (v := ?_) sz ?_ ?_
    rotate_left 1
    · (intro ρ hρ; have r218 := (hρ _).trans e218; simp [go_sem, r218] <;> with_reducible rfl)
    intro a N; have sz := N.s sz; have df := N.d df; have e0 := N.o e0; have e1 := N.o e1; have e5 := N.o e5; have e6 := N.o e6; have e7 := N.o e7; have e219 := N.new
    refine sk (d := 220) sz (wanted_is rfl rfl e219 rfl) ?_
    intro a N; have sz := N.s sz; have df := N.d df; have e0 := N.o e0; have e1 := N.o e1; have e5 := N.o e5; have e6 := N.o e6; have e7 := N.o e7; have e219 := N.o e219; have e220 := N.new
    refine sk (d := 221) sz (wanted_is rfl rfl e219 rfl) ?_
    intro a N; have sz := N.s sz; have df := N.d df; have e0 := N.o e0; have e1 := N.o e1; have e5 := N.o e5; have e6 := N.o e6; have e7 := N.o e7; have e219 := N.o e219; have e221 := N.new
    refine sk (d := 222) sz (wanted_is rfl rfl e219 rfl) ?_
    intro a N; have sz := N.s sz; have df := N.d df; have e0 := N.o e0; have e1 := N.o e1; have e5 := N.o e5; have e6 := N.o e6; have e7 := N.o e7; have e219 := N.o e219; have e221 := N.o e221; have e222 := N.new
    refine sk (d := 223) sz (wanted_is rfl rfl e219 rfl) ?_
    intro a N; have sz := N.s sz; have df := N.d df; have e0 := N.o e0; have e1 := N.o e1; have e5 := N.o e5; have e6 := N.o e6; have e7 := N.o e7; have e219 := N.o e219; have e221 := N.o e221; have e223 := N.new
    refine sk (d := 224) sz (wanted_is rfl rfl e219 rfl) ?_
    intro a N; have sz := N.s sz; have df := N.d df; have e0 := N.o e0; have e1 := N.o e1; have e5 := N.o e5; have e6 := N.o e6; have e7 := N.o e7; have e219 := N.o e219; have e224 := N.new
    refine tn (d := 225) (v := ?_) sz ?_ ?_
    rotate_left 1
    · (intro ρ hρ; have rc : ∀ v, ρ (.const v) = v := fun v => hρ _; have r219 := (hρ _).trans e219; have r224 := (hρ _).trans e224; simp [go_sem, rc, r219, r224] <;> with_reducible rfl)
    intro a N; have sz := N.s sz; have df := N.d df; have e0 := N.o e0; have e1 := N.o e1; have e5 := N.o e5; have e6 := N.o e6; have e7 := N.o e7; have e225 := N.new
    refine tn (d := 226) (v := ?_) sz ?_ ?_
    rotate_left 1
    · (intro ρ hρ; have r225 := (hρ _).trans e225; simp [go_sem, r225] <;> with_reducible rfl)
    intro a N; have sz := N.s sz; have df := N.d df; have e0 := N.o e0; have e1 := N.o e1; have e5 := N.o e5; have e6 := N.o e6; have e7 := N.o e7; have e226 := N.new
    refine sk (d := 227) sz (wanted_is rfl rfl e226 rfl) ?_
    intro a N; have sz := N.s sz; have df := N.d df; have e0 := N.o e0; have e1 := N.o e1; have e5 := N.o e5; have e7 := N.o e7; have e226 := N.o e226; have e227 := N.new
    refine sk (d := 228) sz (wanted_is rfl rfl e226 rfl) ?_
    intro a N; have sz := N.s sz; have df := N.d df; have e0 := N.o e0; have e1 := N.o e1; have e5 := N.o e5; have e7 := N.o e7; have e226 := N.o e226; have e228 := N.new
    refine sk (d := 229) sz (wanted_is rfl rfl e226 rfl) ?_
    intro a N; have sz := N.s sz; have df := N.d df; have e0 := N.o e0; have e1 := N.o e1; have e5 := N.o e5; have e226 := N.o e226; have e228 := N.o e228; have e229 := N.new
    refine sk (d := 230) sz (wanted_is rfl rfl e226 rfl) ?_
    intro a N; have sz := N.s sz; have df := N.d df; have e0 := N.o e0; have e1 := N.o e1; have e5 := N.o e5; have e226 := N.o e226; have e228 := N.o e228; have e230 := N.new
    refine sk (d := 231) sz (wanted_is rfl rfl e226 rfl) ?_
    intro a N; have sz := N.s sz; have df := N.d df; have e0 := N.o e0; have e1 := N.o e1; have e5 := N.o e5; have e226 := N.o e226; have e231 := N.new
    refine sk (d := 232) sz (wanted_is rfl rfl e226 rfl) ?_
    intro a N; have sz := N.s sz; have df := N.d df; have e0 := N.o e0; have e1 := N.o e1; have e5 := N.o e5; have e226 := N.o e226; have e232 := N.new
    refine tn (d := 233) (v := ?_) sz ?_ ?_
    rotate_left 1
    · (intro ρ hρ; have rc : ∀ v, ρ (.const v) = v := fun v => hρ _; have r226 := (hρ _).trans e226; have r232 := (hρ _).trans e232; simp [go_sem, rc, r226, r232] <;> with_reducible rfl)
    intro a N; have sz := N.s sz; have df := N.d df; have e0 := N.o e0; have e1 := N.o e1; have e5 := N.o e5; have e233 := N.new
    exact h _ w true ⟨sz, df, e0, e1⟩ e5 e233 ⟨fun h => (by cases h), fun h => absurd (congrArg (fun z => z.2.1) h) hf1⟩ (Keep.refl _ w)
  subst hf1
  refine tk (d := 175) (v := ?_) sz (wanted_is rfl rfl e170 rfl) ?_ ?_
  rotate_left 1
  · (intro ρ hρ; have r172 := (hρ _).trans e172; have r174 := (hρ _).trans e174; simp [go_sem, r172, r174] <;> with_reducible rfl)
  intro a N; have sz := N.s sz; have df := N.d df; have e0 := N.o e0; have e1 := N.o e1; have e5 := N.o e5; have e6 := N.o e6; have e7 := N.o e7; have e170 := N.o e170; have e175 := N.new
  refine tn (d := 176) (v := ?_) sz ?_ ?_
  rotate_left 1
  · (intro ρ hρ; have rc : ∀ v, ρ (.const v) = v := fun v => hρ _; have r170 := (hρ _).trans e170; have r175 := (hρ _).trans e175; simp [go_sem, rc, r170, r175] <;> with_reducible rfl)
  intro a N; have sz := N.s sz; have df := N.d df; have e0 := N.o e0; have e1 := N.o e1; have e5 := N.o e5; have e6 := N.o e6; have e7 := N.o e7; have e176 := N.new
  refine tn (d := 177) (v := ?_) sz ?_ ?_
  rotate_left 1
  · (intro ρ hρ; have r176 := (hρ _).trans e176; simp [go_sem, r176] <;> with_reducible rfl)
  intro a N; have sz := N.s sz; have df := N.d df; have e0 := N.o e0; have e1 := N.o e1; have e5 := N.o e5; have e6 := N.o e6; have e7 := N.o e7; have e177 := N.new
  refine tk (d := 178) (v := ?_) sz (wanted_is rfl rfl e177 rfl) ?_ ?_
  rotate_left 1
  · (intro ρ hρ; have r6 := (hρ _).trans e6; simp [go_sem, r6] <;> with_reducible rfl)
  intro a N; have sz := N.s sz; have df := N.d df; have e0 := N.o e0; have e1 := N.o e1; have e5 := N.o e5; have e6 := N.o e6; have e7 := N.o e7; have e177 := N.o e177; have e178 := N.new
  refine tk (d := 179) (v := ?_) sz (wanted_is rfl rfl e177 rfl) ?_ ?_
  rotate_left 1
  · (intro ρ hρ; have r178 := (hρ _).trans e178; simp [go_sem, r178, c2] <;> with_reducible rfl)
  intro a N; have sz := N.s sz; have df := N.d df; have e0 := N.o e0; have e1 := N.o e1; have e5 := N.o e5; have e6 := N.o e6; have e7 := N.o e7; have e177 := N.o e177; have e179 := N.new
  refine tk (d := 180) (v := ?_) sz (wanted_is rfl rfl e177 rfl) ?_ ?_
  rotate_left 1
  · (intro ρ hρ; have r7 := (hρ _).trans e7; simp [go_sem, r7] <;> with_reducible rfl)
  intro a N; have sz := N.s sz; have df := N.d df; have e0 := N.o e0; have e1 := N.o e1; have e5 := N.o e5; have e6 := N.o e6; have e7 := N.o e7; have e177 := N.o e177; have e179 := N.o e179; have e180 := N.new
  refine tk (d := 181) (v := ?_) sz (wanted_is rfl rfl e177 rfl) ?_ ?_
  rotate_left 1
  · (intro ρ hρ; have r180 := (hρ _).trans e180; simp [go_sem, r180, d2] <;> with_reducible rfl)
  intro a N; have sz := N.s sz; have df := N.d df; have e0 := N.o e0; have e1 := N.o e1; have e5 := N.o e5; have e6 := N.o e6; have e7 := N.o e7; have e177 := N.o e177; have e179 := N.o e179; have e181 := N.new
  by_cases hf2 : f2 = r2
  rotate_left 1
  · have hq : (f2 = true ∧ r2 = false) ∨ (f2 = false ∧ r2 = true) := by cases f2 <;> cases r2 <;> simp_all
    rcases hq with ⟨rfl, rfl⟩ | ⟨rfl, rfl⟩
    · refine tk (d := 182) (v := ?_) sz (wanted_is rfl rfl e177 rfl) ?_ ?_
      rotate_left 1
      · (intro ρ hρ; have r179 := (hρ _).trans e179; have r181 := (hρ _).trans e181; simp [go_sem, r179, r181] <;> with_reducible rfl)
      intro a N; have sz := N.s sz; have df := N.d df; have e0 := N.o e0; have e1 := N.o e1; have e5 := N.o e5; have e6 := N.o e6; have e7 := N.o e7; have e177 := N.o e177; have e182 := N.new
      refine tn (d := 183) (v := ?_) sz ?_ ?_
      rotate_left 1
      · (intro ρ hρ; have rc : ∀ v, ρ (.const v) = v := fun v => hρ _; have r177 := (hρ _).trans e177; have r182 := (hρ _).trans e182; simp [go_sem, rc, r177, r182] <;> with_reducible rfl)
      intro a N; have sz := N.s sz; have df := N.d df; have e0 := N.o e0; have e1 := N.o e1; have e5 := N.o e5; have e6 := N.o e6; have e7 := N.o e7; have e183 := N.new
      refine tn (d := 184) (v := ?_) sz ?_ ?_
      rotate_left 1
      · (intro ρ hρ; have r183 := (hρ _).trans e183; simp [go_sem, r183] <;> with_reducible rfl)
      intro a N; have sz := N.s sz; have df := N.d df; have e0 := N.o e0; have e1 := N.o e1; have e5 := N.o e5; have e6 := N.o e6; have e7 := N.o e7; have e184 := N.new
      refine sk (d := 185) sz (wanted_is rfl rfl e184 rfl) ?_
      intro a N; have sz := N.s sz; have df := N.d df; have e0 := N.o e0; have e1 := N.o e1; have e5 := N.o e5; have e6 := N.o e6; have e7 := N.o e7; have e184 := N.o e184; have e185 := N.new
      refine sk (d := 186) sz (wanted_is rfl rfl e184 rfl) ?_
      intro a N; have sz := N.s sz; have df := N.d df; have e0 := N.o e0; have e1 := N.o e1; have e5 := N.o e5; have e6 := N.o e6; have e7 := N.o e7; have e184 := N.o e184; have e186 := N.new
      refine sk (d := 187) sz (wanted_is rfl rfl e184 rfl) ?_
      intro a N; have sz := N.s sz; have df := N.d df; have e0 := N.o e0; have e1 := N.o e1; have e5 := N.o e5; have e6 := N.o e6; have e7 := N.o e7; have e184 := N.o e184; have e186 := N.o e186; have e187 := N.new
      refine sk (d := 188) sz (wanted_is rfl rfl e184 rfl) ?_
      intro a N; have sz := N.s sz; have df := N.d df; have e0 := N.o e0; have e1 := N.o e1; have e5 := N.o e5; have e6 := N.o e6; have e7 := N.o e7; have e184 := N.o e184; have e186 := N.o e186; have e188 := N.new
      refine sk (d := 189) sz (wanted_is rfl rfl e184 rfl) ?_
      intro a N; have sz := N.s sz; have df := N.d df; have e0 := N.o e0; have e1 := N.o e1; have e5 := N.o e5; have e6 := N.o e6; have e7 := N.o e7; have e184 := N.o e184; have e189 := N.new
      refine tn (d := 190) (v := ?_) sz ?_ ?_
      rotate_left 1
      · (intro ρ hρ; have rc : ∀ v, ρ (.const v) = v := fun v => hρ _; have r184 := (hρ _).trans e184; have r189 := (hρ _).trans e189; simp [go_sem, rc, r184, r189] <;> with_reducible rfl)
      intro a N; have sz := N.s sz; have df := N.d df; have e0 := N.o e0; have e1 := N.o e1; have e5 := N.o e5; have e6 := N.o e6; have e7 := N.o e7; have e190 := N.new
      refine tn (d := 191) (v := ?_) sz ?_ ?_
      rotate_left 1
      · (intro ρ hρ; have r190 := (hρ _).trans e190; simp [go_sem, r190] <;> with_reducible rfl)
      intro a N; have sz := N.s sz; have df := N.d df; have e0 := N.o e0; have e1 := N.o e1; have e5 := N.o e5; have e6 := N.o e6; have e7 := N.o e7; have e191 := N.new
      refine sk (d := 192) sz (wanted_is rfl rfl e191 rfl) ?_
      intro a N; have sz := N.s sz; have df := N.d df; have e0 := N.o e0; have e1 := N.o e1; have e5 := N.o e5; have e6 := N.o e6; have e7 := N.o e7; have e191 := N.o e191; have e192 := N.new
      refine sk (d := 193) sz (wanted_is rfl rfl e191 rfl) ?_
      intro a N; have sz := N.s sz; have df := N.d df; have e0 := N.o e0; have e1 := N.o e1; have e5 := N.o e5; have e6 := N.o e6; have e7 := N.o e7; have e191 := N.o e191; have e193 := N.new
      refine sk (d := 194) sz (wanted_is rfl rfl e191 rfl) ?_
      intro a N; have sz := N.s sz; have df := N.d df; have e0 := N.o e0; have e1 := N.o e1; have e5 := N.o e5; have e6 := N.o e6; have e7 := N.o e7; have e191 := N.o e191; have e193 := N.o e193; have e194 := N.new
      refine sk (d := 195) sz (wanted_is rfl rfl e191 rfl) ?_
      intro a N; have sz := N.s sz; have df := N.d df; have e0 := N.o e0; have e1 := N.o e1; have e5 := N.o e5; have e6 := N.o e6; have e7 := N.o e7; have e191 := N.o e191; have e193 := N.o e193; have e195 := N.new
      refine sk (d := 196) sz (wanted_is rfl rfl e191 rfl) ?_
      intro a N; have sz := N.s sz; have df := N.d df; have e0 := N.o e0; have e1 := N.o e1; have e5 := N.o e5; have e6 := N.o e6; have e7 := N.o e7; have e191 := N.o e191; have e196 := N.new
      refine tn (d := 197) (v := ?_) sz ?_ ?_
      rotate_left 1
      · (intro ρ hρ; have rc : ∀ v, ρ (.const v) = v := fun v => hρ _; have r191 := (hρ _).trans e191; have r196 := (hρ _).trans e196; simp [go_sem, rc, r191, r196] <;> with_reducible rfl)
      intro a N; have sz := N.s sz; have df := N.d df; have e0 := N.o e0; have e1 := N.o e1; have e5 := N.o e5; have e6 := N.o e6; have e7 := N.o e7; have e197 := N.new
      refine tn (d := 198) (v := ?_) sz ?_ ?_
      rotate_left 1
      · (intro ρ hρ; have r197 := (hρ _).trans e197; simp [go_sem, r197] <;> with_reducible rfl)
      intro a N; have sz := N.s sz; have df := N.d df; have e0 := N.o e0; have e1 := N.o e1; have e5 := N.o e5; have e6 := N.o e6; have e7 := N.o e7; have e198 := N.new
      refine sk (d := 199) sz (wanted_is rfl rfl e198 rfl) ?_
      intro a N; have sz := N.s sz; have df := N.d df; have e0 := N.o e0; have e1 := N.o e1; have e5 := N.o e5; have e6 := N.o e6; have e7 := N.o e7; have e198 := N.o e198; have e199 := N.new
      refine sk (d := 200) sz (wanted_is rfl rfl e198 rfl) ?_
      intro a N; have sz := N.s sz; have df := N.d df; have e0 := N.o e0; have e1 := N.o e1; have e5 := N.o e5; have e6 := N.o e6; have e7 := N.o e7; have e198 := N.o e198; have e200 := N.new
      refine sk (d := 201) sz (wanted_is rfl rfl e198 rfl) ?_
      intro a N; have sz := N.s sz; have df := N.d df; have e0 := N.o e0; have e1 := N.o e1; have e5 := N.o e5; have e6 := N.o e6; have e7 := N.o e7; have e198 := N.o e198; have e200 := N.o e200; have e201 := N.new
      refine sk (d := 202) sz (wanted_is rfl rfl e198 rfl) ?_
      intro a N; have sz := N.s sz; have df := N.d df; have e0 := N.o e0; have e1 := N.o e1; have e5 := N.o e5; have e6 := N.o e6; have e7 := N.o e7; have e198 := N.o e198; have e200 := N.o e200; have e202 := N.new
      refine sk (d := 203) sz (wanted_is rfl rfl e198 rfl) ?_
      intro a N; have sz := N.s sz; have df := N.d df; have e0 := N.o e0; have e1 := N.o e1; have e5 := N.o e5; have e6 := N.o e6; have e7 := N.o e7; have e198 := N.o e198; have e203 := N.new
      refine tn (d := 204) (v := ?_) sz ?_ ?_
      rotate_left 1
      · (intro ρ hρ; have rc : ∀ v, ρ (.const v) = v := fun v => hρ _; have r198 := (hρ _).trans e198; have r203 := (hρ _).trans e203; simp [go_sem, rc, r198, r203] <;> with_reducible rfl)
      intro a N; have sz := N.s sz; have df := N.d df; have e0 := N.o e0; have e1 := N.o e1; have e5 := N.o e5; have e6 := N.o e6; have e7 := N.o e7; have e204 := N.new
      refine tn (d := 205) (v := ?_) sz ?_ ?_
      rotate_left 1
      · (intro ρ hρ; have r204 := (hρ _).trans e204; simp [go_sem, r204] <;> with_reducible rfl)
      intro a N; have sz := N.s sz; have df := N.d df; have e0 := N.o e0; have e1 := N.o e1; have e5 := N.o e5; have e6 := N.o e6; have e7 := N.o e7; have e205 := N.new
      refine sk (d := 206) sz (wanted_is rfl rfl e205 rfl) ?_
      intro a N; have sz := N.s sz; have df := N.d df; have e0 := N.o e0; have e1 := N.o e1; have e5 := N.o e5; have e6 := N.o e6; have e7 := N.o e7; have e205 := N.o e205; have e206 := N.new
      refine sk (d := 207) sz (wanted_is rfl rfl e205 rfl) ?_
      intro a N; have sz := N.s sz; have df := N.d df; have e0 := N.o e0; have e1 := N.o e1; have e5 := N.o e5; have e6 := N.o e6; have e7 := N.o e7; have e205 := N.o e205; have e207 := N.new
      refine sk (d := 208) sz (wanted_is rfl rfl e205 rfl) ?_
      intro a N; have sz := N.s sz; have df := N.d df; have e0 := N.o e0; have e1 := N.o e1; have e5 := N.o e5; have e6 := N.o e6; have e7 := N.o e7; have e205 := N.o e205; have e207 := N.o e207; have e208 := N.new
      refine sk (d := 209) sz (wanted_is rfl rfl e205 rfl) ?_
      intro a N; have sz := N.s sz; have df := N.d df; have e0 := N.o e0; have e1 := N.o e1; have e5 := N.o e5; have e6 := N.o e6; have e7 := N.o e7; have e205 := N.o e205; have e207 := N.o e207; have e209 := N.new
      refine sk (d := 210) sz (wanted_is rfl rfl e205 rfl) ?_
      intro a N; have sz := N.s sz; have df := N.d df; have e0 := N.o e0; have e1 := N.o e1; have e5 := N.o e5; have e6 := N.o e6; have e7 := N.o e7; have e205 := N.o e205; have e210 := N.new
      refine tn (d := 211) (v := ?_) sz ?_ ?_
      rotate_left 1
      · (intro ρ hρ; have rc : ∀ v, ρ (.const v) = v := fun v => hρ _; have r205 := (hρ _).trans e205; have r210 := (hρ _).trans e210; simp [go_sem, rc, r205, r210] <;> with_reducible rfl)
      intro a N; have sz := N.s sz; have df := N.d df; have e0 := N.o e0; have e1 := N.o e1; have e5 := N.o e5; have e6 := N.o e6; have e7 := N.o e7; have e211 := N.new
      refine tn (d := 212) (v := ?_) sz ?_ ?_
      rotate_left 1
      · (intro ρ hρ; have r211 := (hρ _).trans e211; simp [go_sem, r211] <;> with_reducible rfl)
      intro a N; have sz := N.s sz; have df := N.d df; have e0 := N.o e0; have e1 := N.o e1; have e5 := N.o e5; have e6 := N.o e6; have e7 := N.o e7; have e212 := N.new
      refine sk (d := 213) sz (wanted_is rfl rfl e212 rfl) ?_
      intro a N; have sz := N.s sz; have df := N.d df; have e0 := N.o e0; have e1 := N.o e1; have e5 := N.o e5; have e6 := N.o e6; have e7 := N.o e7; have e212 := N.o e212; have e213 := N.new
      refine sk (d := 214) sz (wanted_is rfl rfl e212 rfl) ?_
      intro a N; have sz := N.s sz; have df := N.d df; have e0 := N.o e0; have e1 := N.o e1; have e5 := N.o e5; have e6 := N.o e6; have e7 := N.o e7; have e212 := N.o e212; have e214 := N.new
      refine sk (d := 215) sz (wanted_is rfl rfl e212 rfl) ?_
      intro a N; have sz := N.s sz; have df := N.d df; have e0 := N.o e0; have e1 := N.o e1; have e5 := N.o e5; have e6 := N.o e6; have e7 := N.o e7; have e212 := N.o e212; have e214 := N.o e214; have e215 := N.new
      refine sk (d := 216) sz (wanted_is rfl rfl e212 rfl) ?_
      intro a N; have sz := N.s sz; have df := N.d df; have e0 := N.o e0; have e1 := N.o e1; have e5 := N.o e5; have e6 := N.o e6; have e7 := N.o e7; have e212 := N.o e212; have e214 := N.o e214; have e216 := N.new
      refine sk (d := 217) sz (wanted_is rfl rfl e212 rfl) ?_
      intro a N; have sz := N.s sz; have df := N.d df; have e0 := N.o e0; have e1 := N.o e1; have e5 := N.o e5; have e6 := N.o e6; have e7 := N.o e7; have e212 := N.o e212; have e217 := N.new
      refine tn (d := 218) (v := ?_) sz ?_ ?_
      rotate_left 1
      · (intro ρ hρ; have rc : ∀ v, ρ (.const v) = v := fun v => hρ _; have r212 := (hρ _).trans e212; have r217 := (hρ _).trans e217; simp [go_sem, rc, r212, r217] <;> with_reducible rfl)
      intro a N; have sz := N.s sz; have df := N.d df; have e0 := N.o e0; have e1 := N.o e1; have e5 := N.o e5; have e6 := N.o e6; have e7 := N.o e7; have e218 := N.new
      refine tn (d := 219) (v := ?_) sz ?_ ?_
      rotate_left 1
      · (intro ρ hρ; have r218 := (hρ _).trans e218; simp [go_sem, r218] <;> with_reducible rfl)
      intro a N; have sz := N.s sz; have df := N.d df; have e0 := N.o e0; have e1 := N.o e1; have e5 := N.o e5; have e6 := N.o e6; have e7 := N.o e7; have e219 := N.new
      refine sk (d := 220) sz (wanted_is rfl rfl e219 rfl) ?_
      intro a N; have sz := N.s sz; have df := N.d df; have e0 := N.o e0; have e1 := N.o e1; have e5 := N.o e5; have e6 := N.o e6; have e7 := N.o e7; have e219 := N.o e219; have e220 := N.new
      refine sk (d := 221) sz (wanted_is rfl rfl e219 rfl) ?_
      intro a N; have sz := N.s sz; have df := N.d df; have e0 := N.o e0; have e1 := N.o e1; have e5 := N.o e5; have e6 := N.o e6; have e7 := N.o e7; have e219 := N.o e219; have e221 := N.new
      refine sk (d := 222) sz (wanted_is rfl rfl e219 rfl) ?_
      intro a N; have sz := N.s sz; have df := N.d df; have e0 := N.o e0; have e1 := N.o e1; have e5 := N.o e5; have e6 := N.o e6; have e7 := N.o e7; have e219 := N.o e219; have e221 := N.o e221; have e222 := N.new
      refine sk (d := 223) sz (wanted_is rfl rfl e219 rfl) ?_
      intro a N; have sz := N.s sz; have df := N.d df; have e0 := N.o e0; have e1 := N.o e1; have e5 := N.o e5; have e6 := N.o e6; have e7 := N.o e7; have e219 := N.o e219; have e221 := N.o e221; have e223 := N.new
      refine sk (d := 224) sz (wanted_is rfl rfl e219 rfl) ?_
      intro a N; have sz := N.s sz; have df := N.d df; have e0 := N.o e0; have e1 := N.o e1; have e5 := N.o e5; have e6 := N.o e6; have e7 := N.o e7; have e219 := N.o e219; have e224 := N.new
      refine tn (d := 225) (v := ?_) sz ?_ ?_
      rotate_left 1
      · (intro ρ hρ; have rc : ∀ v, ρ (.const v) = v := fun v => hρ _; have r219 := (hρ _).trans e219; have r224 := (hρ _).trans e224; simp [go_sem, rc, r219, r224] <;> with_reducible rfl)
      intro a N; have sz := N.s sz; have df := N.d df; have e0 := N.o e0; have e1 := N.o e1; have e5 := N.o e5; have e6 := N.o e6; have e7 := N.o e7; have e225 := N.new
      refine tn (d := 226) (v := ?_) sz ?_ ?_
      rotate_left 1
      · (intro ρ hρ; have r225 := (hρ _).trans e225; simp [go_sem, r225] <;> with_reducible rfl)
      intro a N; have sz := N.s sz; have df := N.d df; have e0 := N.o e0; have e1 := N.o e1; have e5 := N.o e5; have e6 := N.o e6; have e7 := N.o e7; have e226 := N.new
      refine sk (d := 227) sz (wanted_is rfl rfl e226 rfl) ?_
      intro a N; have sz := N.s sz; have df := N.d df; have e0 := N.o e0; have e1 := N.o e1; have e5 := N.o e5; have e7 := N.o e7; have e226 := N.o e226; have e227 := N.new
      refine sk (d := 228) sz (wanted_is rfl rfl e226 rfl) ?_
      intro a N; have sz := N.s sz; have df := N.d df; have e0 := N.o e0; have e1 := N.o e1; have e5 := N.o e5; have e7 := N.o e7; have e226 := N.o e226; have e228 := N.new
      refine sk (d := 229) sz (wanted_is rfl rfl e226 rfl) ?_
      intro a N; have sz := N.s sz; have df := N.d df; have e0 := N.o e0; have e1 := N.o e1; have e5 := N.o e5; have e226 := N.o e226; have e228 := N.o e228; have e229 := N.new
      refine sk (d := 230) sz (wanted_is rfl rfl e226 rfl) ?_
      intro a N; have sz := N.s sz; have df := N.d df; have e0 := N.o e0; have e1 := N.o e1; have e5 := N.o e5; have e226 := N.o e226; have e228 := N.o e228; have e230 := N.new
      refine sk (d := 231) sz (wanted_is rfl rfl e226 rfl) ?_
      intro a N; have sz := N.s sz; have df := N.d df; have e0 := N.o e0; have e1 := N.o e1; have e5 := N.o e5; have e226 := N.o e226; have e231 := N.new
      refine sk (d := 232) sz (wanted_is rfl rfl e226 rfl) ?_
      intro a N; have sz := N.s sz; have df := N.d df; have e0 := N.o e0; have e1 := N.o e1; have e5 := N.o e5; have e226 := N.o e226; have e232 := N.new
      refine tn (d := 233) (v := ?_) sz ?_ ?_
      rotate_left 1
      · (intro ρ hρ; have rc : ∀ v, ρ (.const v) = v := fun v => hρ _; have r226 := (hρ _).trans e226; have r232 := (hρ _).trans e232; simp [go_sem, rc, r226, r232] <;> with_reducible rfl)
      intro a N; have sz := N.s sz; have df := N.d df; have e0 := N.o e0; have e1 := N.o e1; have e5 := N.o e5; have e233 := N.new
      exact h _ w true ⟨sz, df, e0, e1⟩ e5 e233 ⟨fun h => (by cases h), fun h => absurd (congrArg (fun z => z.2.2.1) h) (by simp)⟩ (Keep.refl _ w)
    · refine tk (d := 182) (v := ?_) sz (wanted_is rfl rfl e177 rfl) ?_ ?_
      rotate_left 1
      · (intro ρ hρ; have r179 := (hρ _).trans e179; have r181 := (hρ _).trans e181; simp [go_sem, r179, r181] <;> with_reducible rfl)
      intro a N; have sz := N.s sz; have df := N.d df; have e0 := N.o e0; have e1 := N.o e1; have e5 := N.o e5; have e6 := N.o e6; have e7 := N.o e7; have e177 := N.o e177; have e182 := N.new
      refine tn (d := 183) (v := ?_) sz ?_ ?_
      rotate_left 1
      · (intro ρ hρ; have rc : ∀ v, ρ (.const v) = v := fun v => hρ _; have r177 := (hρ _).trans e177; have r182 := (hρ _).trans e182; simp [go_sem, rc, r177, r182] <;> with_reducible rfl)
      intro a N; have sz := N.s sz; have df := N.d df; have e0 := N.o e0; have e1 := N.o e1; have e5 := N.o e5; have e6 := N.o e6; have e7 := N.o e7; have e183 := N.new
      refine tn (d := 184) (v := ?_) sz ?_ ?_
      rotate_left 1
      · (intro ρ hρ; have r183 := (hρ _).trans e183; simp [go_sem, r183] <;> with_reducible rfl)
      intro a N; have sz := N.s sz; have df := N.d df; have e0 := N.o e0; have e1 := N.o e1; have e5 := N.o e5; have e6 := N.o e6; have e7 := N.o e7; have e184 := N.new
      refine sk (d := 185) sz (wanted_is rfl rfl e184 rfl) ?_
      intro a N; have sz := N.s sz; have df := N.d df; have e0 := N.o e0; have e1 := N.o e1; have e5 := N.o e5; have e6 := N.o e6; have e7 := N.o e7; have e184 := N.o e184; have e185 := N.new
      refine sk (d := 186) sz (wanted_is rfl rfl e184 rfl) ?_
      intro a N; have sz := N.s sz; have df := N.d df; have e0 := N.o e0; have e1 := N.o e1; have e5 := N.o e5; have e6 := N.o e6; have e7 := N.o e7; have e184 := N.o e184; have e186 := N.new
      refine sk (d := 187) sz (wanted_is rfl rfl e184 rfl) ?_
      intro a N; have sz := N.s sz; have df := N.d df; have e0 := N.o e0; have e1 := N.o e1; have e5 := N.o e5; have e6 := N.o e6; have e7 := N.o e7; have e184 := N.o e184; have e186 := N.o e186; have e187 := N.new
      refine sk (d := 188) sz (wanted_is rfl rfl e184 rfl) ?_
      intro a N; have sz := N.s sz; have df := N.d df; have e0 := N.o e0; have e1 := N.o e1; have e5 := N.o e5; have e6 := N.o e6; have e7 := N.o e7; have e184 := N.o e184; have e186 := N.o e186; have e188 := N.new
      refine sk (d := 189) sz (wanted_is rfl rfl e184 rfl) ?_
      intro a N; have sz := N.s sz; have df := N.d df; have e0 := N.o e0; have e1 := N.o e1; have e5 := N.o e5; have e6 := N.o e6; have e7 := N.o e7; have e184 := N.o e184; have e189 := N.new
      refine tn (d := 190) (v := ?_) sz ?_ ?_
      rotate_left 1
      · (intro ρ hρ; have rc : ∀ v, ρ (.const v) = v := fun v => hρ _; have r184 := (hρ _).trans e184; have r189 := (hρ _).trans e189; simp [go_sem, rc, r184, r189] <;> with_reducible rfl)
      intro a N; have sz := N.s sz; have df := N.d df; have e0 := N.o e0; have e1 := N.o e1; have e5 := N.o e5; have e6 := N.o e6; have e7 := N.o e7; have e190 := N.new
      refine tn (d := 191) (v := ?_) sz ?_ ?_
      rotate_left 1
      · (intro ρ hρ; have r190 := (hρ _).trans e190; simp [go_sem, r190] <;> with_reducible rfl)
      intro a N; have sz := N.s sz; have df := N.d df; have e0 := N.o e0; have e1 := N.o e1; have e5 := N.o e5; have e6 := N.o e6; have e7 := N.o e7; have e191 := N.new
      refine sk (d := 192) sz (wanted_is rfl rfl e191 rfl) ?_
      intro a N; have sz := N.s sz; have df := N.d df; have e0 := N.o e0; have e1 := N.o e1; have e5 := N.o e5; have e6 := N.o e6; have e7 := N.o e7; have e191 := N.o e191; have e192 := N.new
      refine sk (d := 193) sz (wanted_is rfl rfl e191 rfl) ?_
      intro a N; have sz := N.s sz; have df := N.d df; have e0 := N.o e0; have e1 := N.o e1; have e5 := N.o e5; have e6 := N.o e6; have e7 := N.o e7; have e191 := N.o e191; have e193 := N.new
      refine sk (d := 194) sz (wanted_is rfl rfl e191 rfl) ?_
      intro a N; have sz := N.s sz; have df := N.d df; have e0 := N.o e0; have e1 := N.o e1; have e5 := N.o e5; have e6 := N.o e6; have e7 := N.o e7; have e191 := N.o e191; have e193 := N.o e193; have e194 := N.new
      refine sk (d := 195) sz (wanted_is rfl rfl e191 rfl) ?_
      intro a N; have sz := N.s sz; have df := N.d df; have e0 := N.o e0; have e1 := N.o e1; have e5 := N.o e5; have e6 := N.o e6; have e7 := N.o e7; have e191 := N.o e191; have e193 := N.o e193; have e195 := N.new
      refine sk (d := 196) sz (wanted_is rfl rfl e191 rfl) ?_
      intro a N; have sz := N.s sz; have df := N.d df; have e0 := N.o e0; have e1 := N.o e1; have e5 := N.o e5; have e6 := N.o e6; have e7 := N.o e7; have e191 := N.o e191; have e196 := N.new
      refine tn (d := 197) (v := ?_) sz ?_ ?_
      rotate_left 1
      · (intro ρ hρ; have rc : ∀ v, ρ (.const v) = v := fun v => hρ _; have r191 := (hρ _).trans e191; have r196 := (hρ _).trans e196; simp [go_sem, rc, r191, r196] <;> with_reducible rfl)
      intro a N; have sz := N.s sz; have df := N.d df; have e0 := N.o e0; have e1 := N.o e1; have e5 := N.o e5; have e6 := N.o e6; have e7 := N.o e7; have e197 := N.new
      refine tn (d := 198) (v := ?_) sz ?_ ?_
      rotate_left 1
      · (intro ρ hρ; have r197 := (hρ _).trans e197; simp [go_sem, r197] <;> with_reducible rfl)
      intro a N; have sz := N.s sz; have df := N.d df; have e0 := N.o e0; have e1 := N.o e1; have e5 := N.o e5; have e6 := N.o e6; have e7 := N.o e7; have e198 := N.new
      refine sk (d := 199) sz (wanted_is rfl rfl e198 rfl) ?_
      intro a N; have sz := N.s sz; have df := N.d df; have e0 := N.o e0; have e1 := N.o e1; have e5 := N.o e5; have e6 := N.o e6; have e7 := N.o e7; have e198 := N.o e198; have e199 := N.new
      refine sk (d := 200) sz (wanted_is rfl rfl e198 rfl) ?_
      intro a N; have sz := N.s sz; have df := N.d df; have e0 := N.o e0; have e1 := N.o e1; have e5 := N.o e5; have e6 := N.o e6; have e7 := N.o e7; have e198 := N.o e198; have e200 := N.new
      refine sk (d := 201) sz (wanted_is rfl rfl e198 rfl) ?_
      intro a N; have sz := N.s sz; have df := N.d df; have e0 := N.o e0; have e1 := N.o e1; have e5 := N.o e5; have e6 := N.o e6; have e7 := N.o e7; have e198 := N.o e198; have e200 := N.o e200; have e201 := N.new
      refine sk (d := 202) sz (wanted_is rfl rfl e198 rfl) ?_
      intro a N; have sz := N.s sz; have df := N.d df; have e0 := N.o e0; have e1 := N.o e1; have e5 := N.o e5; have e6 := N.o e6; have e7 := N.o e7; have e198 := N.o e198; have e200 := N.o e200; have e202 := N.new
      refine sk (d := 203) sz (wanted_is rfl rfl e198 rfl) ?_
      intro a N; have sz := N.s sz; have df := N.d df; have e0 := N.o e0; have e1 := N.o e1; have e5 := N.o e5; have e6 := N.o e6; have e7 := N.o e7; have e198 := N.o e198; have e203 := N.new
      refine tn (d := 204) (v := ?_) sz ?_ ?_
      rotate_left 1
      · (intro ρ hρ; have rc : ∀ v, ρ (.const v) = v := fun v => hρ _; have r198 := (hρ _).trans e198; have r203 := (hρ _).trans e203; simp [go_sem, rc, r198, r203] <;> with_reducible rfl)
      intro a N; have sz := N.s sz; have df := N.d df; have e0 := N.o e0; have e1 := N.o e1; have e5 := N.o e5; have e6 := N.o e6; have e7 := N.o e7; have e204 := N.new
      refine tn (d := 205) (v := ?_) sz ?_ ?_
      rotate_left 1
      · (intro ρ hρ; have r204 := (hρ _).trans e204; simp [go_sem, r204] <;> with_reducible rfl)
      intro a N; have sz := N.s sz; have df := N.d df; have e0 := N.o e0; have e1 := N.o e1; have e5 := N.o e5; have e6 := N.o e6; have e7 := N.o e7; have e205 := N.new
      refine sk (d := 206) sz (wanted_is rfl rfl e205 rfl) ?_
      intro a N; have sz := N.s sz; have df := N.d df; have e0 := N.o e0; have e1 := N.o e1; have e5 := N.o e5; have e6 := N.o e6; have e7 := N.o e7; have e205 := N.o e205; have e206 := N.new
      refine sk (d := 207) sz (wanted_is rfl rfl e205 rfl) ?_
      intro a N; have sz := N.s sz; have df := N.d df; have e0 := N.o e0; have e1 := N.o e1; have e5 := N.o e5; have e6 := N.o e6; have e7 := N.o e7; have e205 := N.o e205; have e207 := N.new
      refine sk (d := 208) sz (wanted_is rfl rfl e205 rfl) ?_
      intro a N; have sz := N.s sz; have df := N.d df; have e0 := N.o e0; have e1 := N.o e1; have e5 := N.o e5; have e6 := N.o e6; have e7 := N.o e7; have e205 := N.o e205; have e207 := N.o e207; have e208 := N.new
      refine sk (d := 209) sz (wanted_is rfl rfl e205 rfl) ?_
      intro a N; have sz := N.s sz; have df := N.d df; have e0 := N.o e0; have e1 := N.o e1; have e5 := N.o e5; have e6 := N.o e6; have e7 := N.o e7; have e205 := N.o e205; have e207 := N.o e207; have e209 := N.new
      refine sk (d := 210) sz (wanted_is rfl rfl e205 rfl) ?_
      intro a N; have sz := N.s sz; have df := N.d df; have e0 := N.o e0; have e1 := N.o e1; have e5 := N.o e5; have e6 := N.o e6; have e7 := N.o e7; have e205 := N.o e205; have e210 := N.new
      refine tn (d := 211) (v := ?_) sz ?_ ?_
      rotate_left 1
      · (intro ρ hρ; have rc : ∀ v, ρ (.const v) = v := fun v => hρ _; have r205 := (hρ _).trans e205; have r210 := (hρ _).trans e210; simp [go_sem, rc, r205, r210] <;> with_reducible rfl)
      intro a N; have sz := N.s sz; have df := N.d df; have e0 := N.o e0; have e1 := N.o e1; have e5 := N.o e5; have e6 := N.o e6; have e7 := N.o e7; have e211 := N.new
      refine tn (d := 212) (v := ?_) sz ?_ ?_
      rotate_left 1
      · (intro ρ hρ; have r211 := (hρ _).trans e211; simp [go_sem, r211] <;> with_reducible rfl)
      intro a N; have sz := N.s sz; have df := N.d df; have e0 := N.o e0; have e1 := N.o e1; have e5 := N.o e5; have e6 := N.o e6; have e7 := N.o e7; have e212 := N.new
      refine sk (d := 213) sz (wanted_is rfl rfl e212 rfl) ?_
      intro a N; have sz := N.s sz; have df := N.d df; have e0 := N.o e0; have e1 := N.o e1; have e5 := N.o e5; have e6 := N.o e6; have e7 := N.o e7; have e212 := N.o e212; have e213 := N.new
      refine sk (d := 214) sz (wanted_is rfl rfl e212 rfl) ?_
      intro a N; have sz := N.s sz; have df := N.d df; have e0 := N.o e0; have e1 := N.o e1; have e5 := N.o e5; have e6 := N.o e6; have e7 := N.o e7; have e212 := N.o e212; have e214 := N.new
      refine sk (d := 215) sz (wanted_is rfl rfl e212 rfl) ?_
      intro a N; have sz := N.s sz; have df := N.d df; have e0 := N.o e0; have e1 := N.o e1; have e5 := N.o e5; have e6 := N.o e6; have e7 := N.o e7; have e212 := N.o e212; have e214 := N.o e214; have e215 := N.new
      refine sk (d := 216) sz (wanted_is rfl rfl e212 rfl) ?_
      intro a N; have sz := N.s sz; have df := N.d df; have e0 := N.o e0; have e1 := N.o e1; have e5 := N.o e5; have e6 := N.o e6; have e7 := N.o e7; have e212 := N.o e212; have e214 := N.o e214; have e216 := N.new
      refine sk (d := 217) sz (wanted_is rfl rfl e212 rfl) ?_
      intro a N; have sz := N.s sz; have df := N.d df; have e0 := N.o e0; have e1 := N.o e1; have e5 := N.o e5; have e6 := N.o e6; have e7 := N.o e7; have e212 := N.o e212; have e217 := N.new
      refine tn (d := 218) (v := ?_) sz ?_ ?_
      rotate_left 1
      · (intro ρ hρ; have rc : ∀ v, ρ (.const v) = v := fun v => hρ _; have r212 := (hρ _).trans e212; have r217 := (hρ _).trans e217; simp [go_sem, rc, r212, r217] <;> with_reducible rfl)
      intro a N; have sz := N.s sz; have df := N.d df; have e0 := N.o e0; have e1 := N.o e1; have e5 := N.o e5; have e6 := N.o e6; have e7 := N.o e7; have e218 := N.new
      refine tn (d := 219) (v := ?_) sz ?_ ?_
      rotate_left 1
      · (intro ρ hρ; have r218 := (hρ _).trans e218; simp [go_sem, r218] <;> with_reducible rfl)
      intro a N; have sz := N.s sz; have df := N.d df; have e0 := N.o e0; have e1 := N.o e1; have e5 := N.o e5; have e6 := N.o e6; have e7 := N.o e7; have e219 := N.new
      refine sk (d := 220) sz (wanted_is rfl rfl e219 rfl) ?_
      intro a N; have sz := N.s sz; have df := N.d df; have e0 := N.o e0; have e1 := N.o e1; have e5 := N.o e5; have e6 := N.o e6; have e7 := N.o e7; have e219 := N.o e219; have e220 := N.new
      refine sk (d := 221) sz (wanted_is rfl rfl e219 rfl) ?_
      intro a N; have sz := N.s sz; have df := N.d df; have e0 := N.o e0; have e1 := N.o e1; have e5 := N.o e5; have e6 := N.o e6; have e7 := N.o e7; have e219 := N.o e219; have e221 := N.new
      refine sk (d := 222) sz (wanted_is rfl rfl e219 rfl) ?_
      intro a N; have sz := N.s sz; have df := N.d df; have e0 := N.o e0; have e1 := N.o e1; have e5 := N.o e5; have e6 := N.o e6; have e7 := N.o e7; have e219 := N.o e219; have e221 := N.o e221; have e222 := N.new
      refine sk (d := 223) sz (wanted_is rfl rfl e219 rfl) ?_
      intro a N; have sz := N.s sz; have df := N.d df; have e0 := N.o e0; have e1 := N.o e1; have e5 := N.o e5; have e6 := N.o e6; have e7 := N.o e7; have e219 := N.o e219; have e221 := N.o e221; have e223 := N.new
      refine sk (d := 224) sz (wanted_is rfl rfl e219 rfl) ?_
      intro a N; have sz := N.s sz; have df := N.d df; have e0 := N.o e0; have e1 := N.o e1; have e5 := N.o e5; have e6 := N.o e6; have e7 := N.o e7; have e219 := N.o e219; have e224 := N.new
      refine tn (d := 225) (v := ?_) sz ?_ ?_
      rotate_left 1
      · (intro ρ hρ; have rc : ∀ v, ρ (.const v) = v := fun v => hρ _; have r219 := (hρ _).trans e219; have r224 := (hρ _).trans e224; simp [go_sem, rc, r219, r224] <;> with_reducible rfl)
      intro a N; have sz := N.s sz; have df := N.d df; have e0 := N.o e0; have e1 := N.o e1; have e5 := N.o e5; have e6 := N.o e6; have e7 := N.o e7; have e225 := N.new
      refine tn (d := 226) (v := ?_) sz ?_ ?_
      rotate_left 1
      · (intro ρ hρ; have r225 := (hρ _).trans e225; simp [go_sem, r225] <;> with_reducible rfl)
      intro a N; have sz := N.s sz; have df := N.d df; have e0 := N.o e0; have e1 := N.o e1; have e5 := N.o e5; have e6 := N.o e6; have e7 := N.o e7; have e226 := N.new
      refine sk (d := 227) sz (wanted_is rfl rfl e226 rfl) ?_
      intro a N; have sz := N.s sz; have df := N.d df; have e0 := N.o e0; have e1 := N.o e1; have e5 := N.o e5; have e7 := N.o e7; have e226 := N.o e226; have e227 := N.new
      refine sk (d := 228) sz (wanted_is rfl rfl e226 rfl) ?_
      intro a N; have sz := N.s sz; have df := N.d df; have e0 := N.o e0; have e1 := N.o e1; have e5 := N.o e5; have e7 := N.o e7; have e226 := N.o e226; have e228 := N.new
      refine sk (d := 229) sz (wanted_is rfl rfl e226 rfl) ?_
      intro a N; have sz := N.s sz; have df := N.d df; have e0 := N.o e0; have e1 := N.o e1; have e5 := N.o e5; have e226 := N.o e226; have e228 := N.o e228; have e229 := N.new
      refine sk (d := 230) sz (wanted_is rfl rfl e226 rfl) ?_
      intro a N; have sz := N.s sz; have df := N.d df; have e0 := N.o e0; have e1 := N.o e1; have e5 := N.o e5; have e226 := N.o e226; have e228 := N.o e228; have e230 := N.new
      refine sk (d := 231) sz (wanted_is rfl rfl e226 rfl) ?_
      intro a N; have sz := N.s sz; have df := N.d df; have e0 := N.o e0; have e1 := N.o e1; have e5 := N.o e5; have e226 := N.o e226; have e231 := N.new
      refine sk (d := 232) sz (wanted_is rfl rfl e226 rfl) ?_
      intro a N; have sz := N.s sz; have df := N.d df; have e0 := N.o e0; have e1 := N.o e1; have e5 := N.o e5; have e226 := N.o e226; have e232 := N.new
      refine tn (d := 233) (v := ?_) sz ?_ ?_
      rotate_left 1
      · (intro ρ hρ; have rc : ∀ v, ρ (.const v) = v := fun v => hρ _; have r226 := (hρ _).trans e226; have r232 := (hρ _).trans e232; simp [go_sem, rc, r226, r232] <;> with_reducible rfl)
      intro a N; have sz := N.s sz; have df := N.d df; have e0 := N.o e0; have e1 := N.o e1; have e5 := N.o e5; have e233 := N.new
      exact h _ w true ⟨sz, df, e0, e1⟩ e5 e233 ⟨fun h => (by cases h), fun h => absurd (congrArg (fun z => z.2.2.1) h) (by simp)⟩ (Keep.refl _ w)
  subst hf2
  refine tk (d := 182) (v := ?_) sz (wanted_is rfl rfl e177 rfl) ?_ ?_
  rotate_left 1
  · (intro ρ hρ; have r179 := (hρ _).trans e179; have r181 := (hρ _).trans e181; simp [go_sem, r179, r181] <;> with_reducible rfl)
  intro a N; have sz := N.s sz; have df := N.d df; have e0 := N.o e0; have e1 := N.o e1; have e5 := N.o e5; have e6 := N.o e6; have e7 := N.o e7; have e177 := N.o e177; have e182 := N.new
  refine tn (d := 183) (v := ?_) sz ?_ ?_
  rotate_left 1
  · (intro ρ hρ; have rc : ∀ v, ρ (.const v) = v := fun v => hρ _; have r177 := (hρ _).trans e177; have r182 := (hρ _).trans e182; simp [go_sem, rc, r177, r182] <;> with_reducible rfl)
  intro a N; have sz := N.s sz; have df := N.d df; have e0 := N.o e0; have e1 := N.o e1; have e5 := N.o e5; have e6 := N.o e6; have e7 := N.o e7; have e183 := N.new
  refine tn (d := 184) (v := ?_) sz ?_ ?_
  rotate_left 1
  · (intro ρ hρ; have r183 := (hρ _).trans e183; simp [go_sem, r183] <;> with_reducible rfl)
  intro a N; have sz := N.s sz; have df := N.d df; have e0 := N.o e0; have e1 := N.o e1; have e5 := N.o e5; have e6 := N.o e6; have e7 := N.o e7; have e184 := N.new
  refine tk (d := 185) (v := ?_) sz (wanted_is rfl rfl e184 rfl) ?_ ?_
  rotate_left 1
  · (intro ρ hρ; have r6 := (hρ _).trans e6; simp [go_sem, r6] <;> with_reducible rfl)
  intro a N; have sz := N.s sz; have df := N.d df; have e0 := N.o e0; have e1 := N.o e1; have e5 := N.o e5; have e6 := N.o e6; have e7 := N.o e7; have e184 := N.o e184; have e185 := N.new
  refine tk (d := 186) (v := ?_) sz (wanted_is rfl rfl e184 rfl) ?_ ?_
  rotate_left 1
  · (intro ρ hρ; have r185 := (hρ _).trans e185; simp [go_sem, r185, c3] <;> with_reducible rfl)
  intro a N; have sz := N.s sz; have df := N.d df; have e0 := N.o e0; have e1 := N.o e1; have e5 := N.o e5; have e6 := N.o e6; have e7 := N.o e7; have e184 := N.o e184; have e186 := N.new
  refine tk (d := 187) (v := ?_) sz (wanted_is rfl rfl e184 rfl) ?_ ?_
  rotate_left 1
  · (intro ρ hρ; have r7 := (hρ _).trans e7; simp [go_sem, r7] <;> with_reducible rfl)
  intro a N; have sz := N.s sz; have df := N.d df; have e0 := N.o e0; have e1 := N.o e1; have e5 := N.o e5; have e6 := N.o e6; have e7 := N.o e7; have e184 := N.o e184; have e186 := N.o e186; have e187 := N.new
  refine tk (d := 188) (v := ?_) sz (wanted_is rfl rfl e184 rfl) ?_ ?_
  rotate_left 1
  · (intro ρ hρ; have r187 := (hρ _).trans e187; simp [go_sem, r187, d3] <;> with_reducible rfl)
  intro a N; have sz := N.s sz; have df := N.d df; have e0 := N.o e0; have e1 := N.o e1; have e5 := N.o e5; have e6 := N.o e6; have e7 := N.o e7; have e184 := N.o e184; have e186 := N.o e186; have e188 := N.new
  by_cases hf3 : f3 = r3
  rotate_left 1
  · have hq : (f3 != r3) = true := by simpa using hf3
    refine tk (d := 189) (v := ?_) sz (wanted_is rfl rfl e184 rfl) ?_ ?_
    rotate_left 1
    · (intro ρ hρ; have r186 := (hρ _).trans e186; have r188 := (hρ _).trans e188; simp [go_sem, r186, r188, hq] <;> with_reducible rfl)
    intro a N; have sz := N.s sz; have df := N.d df; have e0 := N.o e0; have e1 := N.o e1; have e5 := N.o e5; have e6 := N.o e6; have e7 := N.o e7; have e184 := N.o e184; have e189 := N.new
    refine tn (d := 190) (v := ?_) sz ?_ ?_
    rotate_left 1
    · (intro ρ hρ; have rc : ∀ v, ρ (.const v) = v := fun v => hρ _; have r184 := (hρ _).trans e184; have r189 := (hρ _).trans e189; simp [go_sem, rc, r184, r189] <;> with_reducible rfl)
    intro a N; have sz := N.s sz; have df := N.d df; have e0 := N.o e0; have e1 := N.o e1; have e5 := N.o e5; have e6 := N.o e6; have e7 := N.o e7; have e190 := N.new
    refine tn (d := 191) (v := ?_) sz ?_ ?_
    rotate_left 1
    · (intro ρ hρ; have r190 := (hρ _).trans e190; simp [go_sem, r190] <;> with_reducible rfl)
    intro a N; have sz := N.s sz; have df := N.d df; have e0 := N.o e0; have e1 := N.o e1; have e5 := N.o e5; have e6 := N.o e6; have e7 := N.o e7; have e191 := N.new
    refine sk (d := 192) sz (wanted_is rfl rfl e191 rfl) ?_
    intro a N; have sz := N.s sz; have df := N.d df; have e0 := N.o e0; have e1 := N.o e1; have e5 := N.o e5; have e6 := N.o e6; have e7 := N.o e7; have e191 := N.o e191; have e192 := N.new
    refine sk (d := 193) sz (wanted_is rfl rfl e191 rfl) ?_
    intro a N; have sz := N.s sz; have df := N.d df; have e0 := N.o e0; have e1 := N.o e1; have e5 := N.o e5; have e6 := N.o e6; have e7 := N.o e7; have e191 := N.o e191; have e193 := N.new
    refine sk (d := 194) sz (wanted_is rfl rfl e191 rfl) ?_
    intro a N; have sz := N.s sz; have df := N.d df; have e0 := N.o e0; have e1 := N.o e1; have e5 := N.o e5; have e6 := N.o e6; have e7 := N.o e7; have e191 := N.o e191; have e193 := N.o e193; have e194 := N.new
    refine sk (d := 195) sz (wanted_is rfl rfl e191 rfl) ?_
    intro a N; have sz := N.s sz; have df := N.d df; have e0 := N.o e0; have e1 := N.o e1; have e5 := N.o e5; have e6 := N.o e6; have e7 := N.o e7; have e191 := N.o e191; have e193 := N.o e193; have e195 := N.new
    refine sk (d := 196) sz (wanted_is rfl rfl e191 rfl) ?_
    intro a N; have sz := N.s sz; have df := N.d df; have e0 := N.o e0; have e1 := N.o e1; have e5 := N.o e5; have e6 := N.o e6; have e7 := N.o e7; have e191 := N.o e191; have e196 := N.new
    refine tn (d := 197) (v := ?_) sz ?_ ?_
    rotate_left 1
    · (intro ρ hρ; have rc : ∀ v, ρ (.const v) = v := fun v => hρ _; have r191 := (hρ _).trans e191; have r196 := (hρ _).trans e196; simp [go_sem, rc, r191, r196] <;> with_reducible rfl)
    intro a N; have sz := N.s sz; have df := N.d df; have e0 := N.o e0; have e1 := N.o e1; have e5 := N.o e5; have e6 := N.o e6; have e7 := N.o e7; have e197 := N.new
    refine tn (d := 198) (v := ?_) sz ?_ ?_
    rotate_left 1
    · (intro ρ hρ; have r197 := (hρ _).trans e197; simp [go_sem, r197] <;> with_reducible rfl)
    intro a N; have sz := N.s sz; have df := N.d df; have e0 := N.o e0; have e1 := N.o e1; have e5 := N.o e5; have e6 := N.o e6; have e7 := N.o e7; have e198 := N.new
    refine sk (d := 199) sz (wanted_is rfl rfl e198 rfl) ?_
    intro a N; have sz := N.s sz; have df := N.d df; have e0 := N.o e0; have e1 := N.o e1; have e5 := N.o e5; have e6 := N.o e6; have e7 := N.o e7; have e198 := N.o e198; have e199 := N.new
    refine sk (d := 200) sz (wanted_is rfl rfl e198 rfl) ?_
    intro a N; have sz := N.s sz; have df := N.d df; have e0 := N.o e0; have e1 := N.o e1; have e5 := N.o e5; have e6 := N.o e6; have e7 := N.o e7; have e198 := N.o e198; have e200 := N.new
    refine sk (d := 201) sz (wanted_is rfl rfl e198 rfl) ?_
    intro a N; have sz := N.s sz; have df := N.d df; have e0 := N.o e0; have e1 := N.o e1; have e5 := N.o e5; have e6 := N.o e6; have e7 := N.o e7; have e198 := N.o e198; have e200 := N.o e200; have e201 := N.new
    refine sk (d := 202) sz (wanted_is rfl rfl e198 rfl) ?_
    intro a N; have sz := N.s sz; have df := N.d df; have e0 := N.o e0; have e1 := N.o e1; have e5 := N.o e5; have e6 := N.o e6; have e7 := N.o e7; have e198 := N.o e198; have e200 := N.o e200; have e202 := N.new
    refine sk (d := 203) sz (wanted_is rfl rfl e198 rfl) ?_
    intro a N; have sz := N.s sz; have df := N.d df; have e0 := N.o e0; have e1 := N.o e1; have e5 := N.o e5; have e6 := N.o e6; have e7 := N.o e7; have e198 := N.o e198; have e203 := N.new
    refine tn (d := 204) (v := ?_) sz ?_ ?_
    rotate_left 1
    · (intro ρ hρ; have rc : ∀ v, ρ (.const v) = v := fun v => hρ _; have r198 := (hρ _).trans e198; have r203 := (hρ _).trans e203; simp [go_sem, rc, r198, r203] <;> with_reducible rfl)
    intro a N; have sz := N.s sz; have df := N.d df; have e0 := N.o e0; have e1 := N.o e1; have e5 := N.o e5; have e6 := N.o e6; have e7 := N.o e7; have e204 := N.new
    refine tn (d := 205) (v := ?_) sz ?_ ?_
    rotate_left 1
    · (intro ρ hρ; have r204 := (hρ _).trans e204; simp [go_sem, r204] <;> with_reducible rfl)
    intro a N; have sz := N.s sz; have df := N.d df; have e0 := N.o e0; have e1 := N.o e1; have e5 := N.o e5; have e6 := N.o e6; have e7 := N.o e7; have e205 := N.new
    refine sk (d := 206) sz (wanted_is rfl rfl e205 rfl) ?_
    intro a N; have sz := N.s sz; have df := N.d df; have e0 := N.o e0; have e1 := N.o e1; have e5 := N.o e5; have e6 := N.o e6; have e7 := N.o e7; have e205 := N.o e205; have e206 := N.new
    refine sk (d := 207) sz (wanted_is rfl rfl e205 rfl) ?_
    intro a N; have sz := N.s sz; have df := N.d df; have e0 := N.o e0; have e1 := N.o e1; have e5 := N.o e5; have e6 := N.o e6; have e7 := N.o e7; have e205 := N.o e205; have e207 := N.new
    refine sk (d := 208) sz (wanted_is rfl rfl e205 rfl) ?_
    intro a N; have sz := N.s sz; have df := N.d df; have e0 := N.o e0; have e1 := N.o e1; have e5 := N.o e5; have e6 := N.o e6; have e7 := N.o e7; have e205 := N.o e205; have e207 := N.o e207; have e208 := N.new
    refine sk (d := 209) sz (wanted_is rfl rfl e205 rfl) ?_
    intro a N; have sz := N.s sz; have df := N.d df; have e0 := N.o e0; have e1 := N.o e1; have e5 := N.o e5; have e6 := N.o e6; have e7 := N.o e7; have e205 := N.o e205; have e207 := N.o e207; have e209 := N.new
    refine sk (d := 210) sz (wanted_is rfl rfl e205 rfl) ?_
    intro a N; have sz := N.s sz; have df := N.d df; have e0 := N.o e0; have e1 := N.o e1; have e5 := N.o e5; have e6 := N.o e6; have e7 := N.o e7; have e205 := N.o e205; have e210 := N.new
    refine tn (d := 211) (v := ?_) sz ?_ ?_
    rotate_left 1
    · (intro ρ hρ; have rc : ∀ v, ρ (.const v) = v := fun v => hρ _; have r205 := (hρ _).trans e205; have r210 := (hρ _).trans e210; simp [go_sem, rc, r205, r210] <;> with_reducible rfl)
    intro a N; have sz := N.s sz; have df := N.d df; have e0 := N.o e0; have e1 := N.o e1; have e5 := N.o e5; have e6 := N.o e6; have e7 := N.o e7; have e211 := N.new
    refine tn (d := 212) (v := ?_) sz ?_ ?_
    rotate_left 1
    · (intro ρ hρ; have r211 := (hρ _).trans e211; simp [go_sem, r211] <;> with_reducible rfl)
    intro a N; have sz := N.s sz; have df := N.d df; have e0 := N.o e0; have e1 := N.o e1; have e5 := N.o e5; have e6 := N.o e6; have e7 := N.o e7; have e212 := N.new
    refine sk (d := 213) sz (wanted_is rfl rfl e212 rfl) ?_
    intro a N; have sz := N.s sz; have df := N.d df; have e0 := N.o e0; have e1 := N.o e1; have e5 := N.o e5; have e6 := N.o e6; have e7 := N.o e7; have e212 := N.o e212; have e213 := N.new
    refine sk (d := 214) sz (wanted_is rfl rfl e212 rfl) ?_
    intro a N; have sz := N.s sz; have df := N.d df; have e0 := N.o e0; have e1 := N.o e1; have e5 := N.o e5; have e6 := N.o e6; have e7 := N.o e7; have e212 := N.o e212; have e214 := N.new
    refine sk (d := 215) sz (wanted_is rfl rfl e212 rfl) ?_
    intro a N; have sz := N.s sz; have df := N.d df; have e0 := N.o e0; have e1 := N.o e1; have e5 := N.o e5; have e6 := N.o e6; have e7 := N.o e7; have e212 := N.o e212; have e214 := N.o e214; have e215 := N.new
    refine sk (d := 216) sz (wanted_is rfl rfl e212 rfl) ?_
    intro a N; have sz := N.s sz; have df := N.d df; have e0 := N.o e0; have e1 := N.o e1; have e5 := N.o e5; have e6 := N.o e6; have e7 := N.o e7; have e212 := N.o e212; have e214 := N.o e214; have e216 := N.new
    refine sk (d := 217) sz (wanted_is rfl rfl e212 rfl) ?_
    intro a N; have sz := N.s sz; have df := N.d df; have e0 := N.o e0; have e1 := N.o e1; have e5 := N.o e5; have e6 := N.o e6; have e7 := N.o e7; have e212 := N.o e212; have e217 := N.new
    refine tn (d := 218) (v := ?_) sz ?_ ?_
    rotate_left 1
    · (intro ρ hρ; have rc : ∀ v, ρ (.const v) = v := fun v => hρ _; have r212 := (hρ _).trans e212; have r217 := (hρ _).trans e217; simp [go_sem, rc, r212, r217] <;> with_reducible rfl)
    intro a N; have sz := N.s sz; have df := N.d df; have e0 := N.o e0; have e1 := N.o e1; have e5 := N.o e5; have e6 := N.o e6; have e7 := N.o e7; have e218 := N.new
    refine tn (d := 219) (v := ?_) sz ?_ ?_
    rotate_left 1
    · (intro ρ hρ; have r218 := (hρ _).trans e218; simp [go_sem, r218] <;> with_reducible rfl)
    intro a N; have sz := N.s sz; have df := N.d df; have e0 := N.o e0; have e1 := N.o e1; have e5 := N.o e5; have e6 := N.o e6; have e7 := N.o e7; have e219 := N.new
    refine sk (d := 220) sz (wanted_is rfl rfl e219 rfl) ?_
    intro a N; have sz := N.s sz; have df := N.d df; have e0 := N.o e0; have e1 := N.o e1; have e5 := N.o e5; have e6 := N.o e6; have e7 := N.o e7; have e219 := N.o e219; have e220 := N.new
    refine sk (d := 221) sz (wanted_is rfl rfl e219 rfl) ?_
    intro a N; have sz := N.s sz; have df := N.d df; have e0 := N.o e0; have e1 := N.o e1; have e5 := N.o e5; have e6 := N.o e6; have e7 := N.o e7; have e219 := N.o e219; have e221 := N.new
    refine sk (d := 222) sz (wanted_is rfl rfl e219 rfl) ?_
    intro a N; have sz := N.s sz; have df := N.d df; have e0 := N.o e0; have e1 := N.o e1; have e5 := N.o e5; have e6 := N.o e6; have e7 := N.o e7; have e219 := N.o e219; have e221 := N.o e221; have e222 := N.new
    refine sk (d := 223) sz (wanted_is rfl rfl e219 rfl) ?_
    intro a N; have sz := N.s sz; have df := N.d df; have e0 := N.o e0; have e1 := N.o e1; have e5 := N.o e5; have e6 := N.o e6; have e7 := N.o e7; have e219 := N.o e219; have e221 := N.o e221; have e223 := N.new
    refine sk (d := 224) sz (wanted_is rfl rfl e219 rfl) ?_
    intro a N; have sz := N.s sz; have df := N.d df; have e0 := N.o e0; have e1 := N.o e1; have e5 := N.o e5; have e6 := N.o e6; have e7 := N.o e7; have e219 := N.o e219; have e224 := N.new
    refine tn (d := 225) (v := ?_) sz ?_ ?_
    rotate_left 1
    · (intro ρ hρ; have rc : ∀ v, ρ (.const v) = v := fun v => hρ _; have r219 := (hρ _).trans e219; have r224 := (hρ _).trans e224; simp [go_sem, rc, r219, r224] <;> with_reducible rfl)
    intro a N; have sz := N.s sz; have df := N.d df; have e0 := N.o e0; have e1 := N.o e1; have e5 := N.o e5; have e6 := N.o e6; have e7 := N.o e7; have e225 := N.new
    refine tn (d := 226) (v := ?_) sz ?_ ?_
    rotate_left 1
    · (intro ρ hρ; have r225 := (hρ _).trans e225; simp [go_sem, r225] <;> with_reducible rfl)
    intro a N; have sz := N.s sz; have df := N.d df; have e0 := N.o e0; have e1 := N.o e1; have e5 := N.o e5; have e6 := N.o e6; have e7 := N.o e7; have e226 := N.new
    refine sk (d := 227) sz (wanted_is rfl rfl e226 rfl) ?_
    intro a N; have sz := N.s sz; have df := N.d df; have e0 := N.o e0; have e1 := N.o e1; have e5 := N.o e5; have e7 := N.o e7; have e226 := N.o e226; have e227 := N.new
    refine sk (d := 228) sz (wanted_is rfl rfl e226 rfl) ?_
    intro a N; have sz := N.s sz; have df := N.d df; have e0 := N.o e0; have e1 := N.o e1; have e5 := N.o e5; have e7 := N.o e7; have e226 := N.o e226; have e228 := N.new
    refine sk (d := 229) sz (wanted_is rfl rfl e226 rfl) ?_
    intro a N; have sz := N.s sz; have df := N.d df; have e0 := N.o e0; have e1 := N.o e1; have e5 := N.o e5; have e226 := N.o e226; have e228 := N.o e228; have e229 := N.new
    refine sk (d := 230) sz (wanted_is rfl rfl e226 rfl) ?_
    intro a N; have sz := N.s sz; have df := N.d df; have e0 := N.o e0; have e1 := N.o e1; have e5 := N.o e5; have e226 := N.o e226; have e228 := N.o e228; have e230 := N.new
    refine sk (d := 231) sz (wanted_is rfl rfl e226 rfl) ?_
    intro a N; have sz := N.s sz; have df := N.d df; have e0 := N.o e0; have e1 := N.o e1; have e5 := N.o e5; have e226 := N.o e226; have e231 := N.new
    refine sk (d := 232) sz (wanted_is rfl rfl e226 rfl) ?_
    intro a N; have sz := N.s sz; have df := N.d df; have e0 := N.o e0; have e1 := N.o e1; have e5 := N.o e5; have e226 := N.o e226; have e232 := N.new
    refine tn (d := 233) (v := ?_) sz ?_ ?_
    rotate_left 1
    · (intro ρ hρ; have rc : ∀ v, ρ (.const v) = v := fun v => hρ _; have r226 := (hρ _).trans e226; have r232 := (hρ _).trans e232; simp [go_sem, rc, r226, r232] <;> with_reducible rfl)
    intro a N; have sz := N.s sz; have df := N.d df; have e0 := N.o e0; have e1 := N.o e1; have e5 := N.o e5; have e233 := N.new
    exact h _ w true ⟨sz, df, e0, e1⟩ e5 e233 ⟨fun h => (by cases h), fun h => absurd (congrArg (fun z => z.2.2.2.1) h) hf3⟩ (Keep.refl _ w)
  subst hf3
  refine tk (d := 189) (v := ?_) sz (wanted_is rfl rfl e184 rfl) ?_ ?_
  rotate_left 1
  · (intro ρ hρ; have r186 := (hρ _).trans e186; have r188 := (hρ _).trans e188; simp [go_sem, r186, r188] <;> with_reducible rfl)
  intro a N; have sz := N.s sz; have df := N.d df; have e0 := N.o e0; have e1 := N.o e1; have e5 := N.o e5; have e6 := N.o e6; have e7 := N.o e7; have e184 := N.o e184; have e189 := N.new
  refine tn (d := 190) (v := ?_) sz ?_ ?_
  rotate_left 1
  · (intro ρ hρ; have rc : ∀ v, ρ (.const v) = v := fun v => hρ _; have r184 := (hρ _).trans e184; have r189 := (hρ _).trans e189; simp [go_sem, rc, r184, r189] <;> with_reducible rfl)
  intro a N; have sz := N.s sz; have df := N.d df; have e0 := N.o e0; have e1 := N.o e1; have e5 := N.o e5; have e6 := N.o e6; have e7 := N.o e7; have e190 := N.new
  refine tn (d := 191) (v := ?_) sz ?_ ?_
  rotate_left 1
  · (intro ρ hρ; have r190 := (hρ _).trans e190; simp [go_sem, r190] <;> with_reducible rfl)
  intro a N; have sz := N.s sz; have df := N.d df; have e0 := N.o e0; have e1 := N.o e1; have e5 := N.o e5; have e6 := N.o e6; have e7 := N.o e7; have e191 := N.new
  refine tk (d := 192) (v := ?_) sz (wanted_is rfl rfl e191 rfl) ?_ ?_
  rotate_left 1
  · (intro ρ hρ; have r6 := (hρ _).trans e6; simp [go_sem, r6] <;> with_reducible rfl)
  intro a N; have sz := N.s sz; have df := N.d df; have e0 := N.o e0; have e1 := N.o e1; have e5 := N.o e5; have e6 := N.o e6; have e7 := N.o e7; have e191 := N.o e191; have e192 := N.new
  refine tk (d := 193) (v := ?_) sz (wanted_is rfl rfl e191 rfl) ?_ ?_
  rotate_left 1
  · (intro ρ hρ; have r192 := (hρ _).trans e192; simp [go_sem, r192, c4] <;> with_reducible rfl)
  intro a N; have sz := N.s sz; have df := N.d df; have e0 := N.o e0; have e1 := N.o e1; have e5 := N.o e5; have e6 := N.o e6; have e7 := N.o e7; have e191 := N.o e191; have e193 := N.new
  refine tk (d := 194) (v := ?_) sz (wanted_is rfl rfl e191 rfl) ?_ ?_
  rotate_left 1
  · (intro ρ hρ; have r7 := (hρ _).trans e7; simp [go_sem, r7] <;> with_reducible rfl)
  intro a N; have sz := N.s sz; have df := N.d df; have e0 := N.o e0; have e1 := N.o e1; have e5 := N.o e5; have e6 := N.o e6; have e7 := N.o e7; have e191 := N.o e191; have e193 := N.o e193; have e194 := N.new
  refine tk (d := 195) (v := ?_) sz (wanted_is rfl rfl e191 rfl) ?_ ?_
  rotate_left 1
  · (intro ρ hρ; have r194 := (hρ _).trans e194; simp [go_sem, r194, d4] <;> with_reducible rfl)
  intro a N; have sz := N.s sz; have df := N.d df; have e0 := N.o e0; have e1 := N.o e1; have e5 := N.o e5; have e6 := N.o e6; have e7 := N.o e7; have e191 := N.o e191; have e193 := N.o e193; have e195 := N.new
  by_cases hf4 : f4 = r4
  rotate_left 1
  · have hq : (f4 != r4) = true := by simpa using hf4
    refine tk (d := 196) (v := ?_) sz (wanted_is rfl rfl e191 rfl) ?_ ?_
    rotate_left 1
    · (intro ρ hρ; have r193 := (hρ _).trans e193; have r195 := (hρ _).trans e195; simp [go_sem, r193, r195, hq] <;> with_reducible rfl)
    intro a N; have sz := N.s sz; have df := N.d df; have e0 := N.o e0; have e1 := N.o e1; have e5 := N.o e5; have e6 := N.o e6; have e7 := N.o e7; have e191 := N.o e191; have e196 := N.new
    refine tn (d := 197) (v := ?_) sz ?_ ?_
    rotate_left 1
    · (intro ρ hρ; have rc : ∀ v, ρ (.const v) = v := fun v => hρ _; have r191 := (hρ _).trans e191; have r196 := (hρ _).trans e196; simp [go_sem, rc, r191, r196] <;> with_reducible rfl)
    intro a N; have sz := N.s sz; have df := N.d df; have e0 := N.o e0; have e1 := N.o e1; have e5 := N.o e5; have e6 := N.o e6; have e7 := N.o e7; have e197 := N.new
    refine tn (d := 198) (v := ?_) sz ?_ ?_
    rotate_left 1
    · (intro ρ hρ; have r197 := (hρ _).trans e197; simp [go_sem, r197] <;> with_reducible rfl)
    intro a N; have sz := N.s sz; have df := N.d df; have e0 := N.o e0; have e1 := N.o e1; have e5 := N.o e5; have e6 := N.o e6; have e7 := N.o e7; have e198 := N.new
    refine sk (d := 199) sz (wanted_is rfl rfl e198 rfl) ?_
    intro a N; have sz := N.s sz; have df := N.d df; have e0 := N.o e0; have e1 := N.o e1; have e5 := N.o e5; have e6 := N.o e6; have e7 := N.o e7; have e198 := N.o e198; have e199 := N.new
    refine sk (d := 200) sz (wanted_is rfl rfl e198 rfl) ?_
    intro a N; have sz := N.s sz; have df := N.d df; have e0 := N.o e0; have e1 := N.o e1; have e5 := N.o e5; have e6 := N.o e6; have e7 := N.o e7; have e198 := N.o e198; have e200 := N.new
    refine sk (d := 201) sz (wanted_is rfl rfl e198 rfl) ?_
    intro a N; have sz := N.s sz; have df := N.d df; have e0 := N.o e0; have e1 := N.o e1; have e5 := N.o e5; have e6 := N.o e6; have e7 := N.o e7; have e198 := N.o e198; have e200 := N.o e200; have e201 := N.new
    refine sk (d := 202) sz (wanted_is rfl rfl e198 rfl) ?_
    intro a N; have sz := N.s sz; have df := N.d df; have e0 := N.o e0; have e1 := N.o e1; have e5 := N.o e5; have e6 := N.o e6; have e7 := N.o e7; have e198 := N.o e198; have e200 := N.o e200; have e202 := N.new
    refine sk (d := 203) sz (wanted_is rfl rfl e198 rfl) ?_
    intro a N; have sz := N.s sz; have df := N.d df; have e0 := N.o e0; have e1 := N.o e1; have e5 := N.o e5; have e6 := N.o e6; have e7 := N.o e7; have e198 := N.o e198; have e203 := N.new
    refine tn (d := 204) (v := ?_) sz ?_ ?_
    rotate_left 1
    · (intro ρ hρ; have rc : ∀ v, ρ (.const v) = v := fun v => hρ _; have r198 := (hρ _).trans e198; have r203 := (hρ _).trans e203; simp [go_sem, rc, r198, r203] <;> with_reducible rfl)
    intro a N; have sz := N.s sz; have df := N.d df; have e0 := N.o e0; have e1 := N.o e1; have e5 := N.o e5; have e6 := N.o e6; have e7 := N.o e7; have e204 := N.new
    refine tn (d := 205) (v := ?_) sz ?_ ?_
    rotate_left 1
    · (intro ρ hρ; have r204 := (hρ _).trans e204; simp [go_sem, r204] <;> with_reducible rfl)
    intro a N; have sz := N.s sz; have df := N.d df; have e0 := N.o e0; have e1 := N.o e1; have e5 := N.o e5; have e6 := N.o e6; have e7 := N.o e7; have e205 := N.new
    refine sk (d := 206) sz (wanted_is rfl rfl e205 rfl) ?_
    intro a N; have sz := N.s sz; have df := N.d df; have e0 := N.o e0; have e1 := N.o e1; have e5 := N.o e5; have e6 := N.o e6; have e7 := N.o e7; have e205 := N.o e205; have e206 := N.new
    refine sk (d := 207) sz (wanted_is rfl rfl e205 rfl) ?_
    intro a N; have sz := N.s sz; have df := N.d df; have e0 := N.o e0; have e1 := N.o e1; have e5 := N.o e5; have e6 := N.o e6; have e7 := N.o e7; have e205 := N.o e205; have e207 := N.new
    refine sk (d := 208) sz (wanted_is rfl rfl e205 rfl) ?_
    intro a N; have sz := N.s sz; have df := N.d df; have e0 := N.o e0; have e1 := N.o e1; have e5 := N.o e5; have e6 := N.o e6; have e7 := N.o e7; have e205 := N.o e205; have e207 := N.o e207; have e208 := N.new
    refine sk (d := 209) sz (wanted_is rfl rfl e205 rfl) ?_
    intro a N; have sz := N.s sz; have df := N.d df; have e0 := N.o e0; have e1 := N.o e1; have e5 := N.o e5; have e6 := N.o e6; have e7 := N.o e7; have e205 := N.o e205; have e207 := N.o e207; have e209 := N.new
    refine sk (d := 210) sz (wanted_is rfl rfl e205 rfl) ?_
    intro a N; have sz := N.s sz; have df := N.d df; have e0 := N.o e0; have e1 := N.o e1; have e5 := N.o e5; have e6 := N.o e6; have e7 := N.o e7; have e205 := N.o e205; have e210 := N.new
    refine tn (d := 211) (v := ?_) sz ?_ ?_
    rotate_left 1
    · (intro ρ hρ; have rc : ∀ v, ρ (.const v) = v := fun v => hρ _; have r205 := (hρ _).trans e205; have r210 := (hρ _).trans e210; simp [go_sem, rc, r205, r210] <;> with_reducible rfl)
    intro a N; have sz := N.s sz; have df := N.d df; have e0 := N.o e0; have e1 := N.o e1; have e5 := N.o e5; have e6 := N.o e6; have e7 := N.o e7; have e211 := N.new
    refine tn (d := 212) (v := ?_) sz ?_ ?_
    rotate_left 1
    · (intro ρ hρ; have r211 := (hρ _).trans e211; simp [go_sem, r211] <;> with_reducible rfl)
    intro a N; have sz := N.s sz; have df := N.d df; have e0 := N.o e0; have e1 := N.o e1; have e5 := N.o e5; have e6 := N.o e6; have e7 := N.o e7; have e212 := N.new
    refine sk (d := 213) sz (wanted_is rfl rfl e212 rfl) ?_
    intro a N; have sz := N.s sz; have df := N.d df; have e0 := N.o e0; have e1 := N.o e1; have e5 := N.o e5; have e6 := N.o e6; have e7 := N.o e7; have e212 := N.o e212; have e213 := N.new
    refine sk (d := 214) sz (wanted_is rfl rfl e212 rfl) ?_
    intro a N; have sz := N.s sz; have df := N.d df; have e0 := N.o e0; have e1 := N.o e1; have e5 := N.o e5; have e6 := N.o e6; have e7 := N.o e7; have e212 := N.o e212; have e214 := N.new
    refine sk (d := 215) sz (wanted_is rfl rfl e212 rfl) ?_
    intro a N; have sz := N.s sz; have df := N.d df; have e0 := N.o e0; have e1 := N.o e1; have e5 := N.o e5; have e6 := N.o e6; have e7 := N.o e7; have e212 := N.o e212; have e214 := N.o e214; have e215 := N.new
    refine sk (d := 216) sz (wanted_is rfl rfl e212 rfl) ?_
    intro a N; have sz := N.s sz; have df := N.d df; have e0 := N.o e0; have e1 := N.o e1; have e5 := N.o e5; have e6 := N.o e6; have e7 := N.o e7; have e212 := N.o e212; have e214 := N.o e214; have e216 := N.new
    refine sk (d := 217) sz (wanted_is rfl rfl e212 rfl) ?_
    intro a N; have sz := N.s sz; have df := N.d df; have e0 := N.o e0; have e1 := N.o e1; have e5 := N.o e5; have e6 := N.o e6; have e7 := N.o e7; have e212 := N.o e212; have e217 := N.new
    refine tn (d := 218) (v := ?_) sz ?_ ?_
    rotate_left 1
    · (intro ρ hρ; have rc : ∀ v, ρ (.const v) = v := fun v => hρ _; have r212 := (hρ _).trans e212; have r217 := (hρ _).trans e217; simp [go_sem, rc, r212, r217] <;> with_reducible rfl)
    intro a N; have sz := N.s sz; have df := N.d df; have e0 := N.o e0; have e1 := N.o e1; have e5 := N.o e5; have e6 := N.o e6; have e7 := N.o e7; have e218 := N.new
    refine tn (d := 219) (v := ?_) sz ?_ ?_
    rotate_left 1
    · (intro ρ hρ; have r218 := (hρ _).trans e218; simp [go_sem, r218] <;> with_reducible rfl)
    intro a N; have sz := N.s sz; have df := N.d df; have e0 := N.o e0; have e1 := N.o e1; have e5 := N.o e5; have e6 := N.o e6; have e7 := N.o e7; have e219 := N.new
    refine sk (d := 220) sz (wanted_is rfl rfl e219 rfl) ?_
    intro a N; have sz := N.s sz; have df := N.d df; have e0 := N.o e0; have e1 := N.o e1; have e5 := N.o e5; have e6 := N.o e6; have e7 := N.o e7; have e219 := N.o e219; have e220 := N.new
    refine sk (d := 221) sz (wanted_is rfl rfl e219 rfl) ?_
    intro a N; have sz := N.s sz; have df := N.d df; have e0 := N.o e0; have e1 := N.o e1; have e5 := N.o e5; have e6 := N.o e6; have e7 := N.o e7; have e219 := N.o e219; have e221 := N.new
    refine sk (d := 222) sz (wanted_is rfl rfl e219 rfl) ?_
    intro a N; have sz := N.s sz; have df := N.d df; have e0 := N.o e0; have e1 := N.o e1; have e5 := N.o e5; have e6 := N.o e6; have e7 := N.o e7; have e219 := N.o e219; have e221 := N.o e221; have e222 := N.new
    refine sk (d := 223) sz (wanted_is rfl rfl e219 rfl) ?_
    intro a N; have sz := N.s sz; have df := N.d df; have e0 := N.o e0; have e1 := N.o e1; have e5 := N.o e5; have e6 := N.o e6; have e7 := N.o e7; have e219 := N.o e219; have e221 := N.o e221; have e223 := N.new
    refine sk (d := 224) sz (wanted_is rfl rfl e219 rfl) ?_
    intro a N; have sz := N.s sz; have df := N.d df; have e0 := N.o e0; have e1 := N.o e1; have e5 := N.o e5; have e6 := N.o e6; have e7 := N.o e7; have e219 := N.o e219; have e224 := N.new
    refine tn (d := 225) (v := ?_) sz ?_ ?_
    rotate_left 1
    · (intro ρ hρ; have rc : ∀ v, ρ (.const v) = v := fun v => hρ _; have r219 := (hρ _).trans e219; have r224 := (hρ _).trans e224; simp [go_sem, rc, r219, r224] <;> with_reducible rfl)
    intro a N; have sz := N.s sz; have df := N.d df; have e0 := N.o e0; have e1 := N.o e1; have e5 := N.o e5; have e6 := N.o e6; have e7 := N.o e7; have e225 := N.new
    refine tn (d := 226) (v := ?_) sz ?_ ?_
    rotate_left 1
    · (intro ρ hρ; have r225 := (hρ _).trans e225; simp [go_sem, r225] <;> with_reducible rfl)
    intro a N; have sz := N.s sz; have df := N.d df; have e0 := N.o e0; have e1 := N.o e1; have e5 := N.o e5; have e6 := N.o e6; have e7 := N.o e7; have e226 := N.new
    refine sk (d := 227) sz (wanted_is rfl rfl e226 rfl) ?_
    intro a N; have sz := N.s sz; have df := N.d df; have e0 := N.o e0; have e1 := N.o e1; have e5 := N.o e5; have e7 := N.o e7; have e226 := N.o e226; have e227 := N.new
    refine sk (d := 228) sz (wanted_is rfl rfl e226 rfl) ?_
    intro a N; have sz := N.s sz; have df := N.d df; have e0 := N.o e0; have e1 := N.o e1; have e5 := N.o e5; have e7 := N.o e7; have e226 := N.o e226; have e228 := N.new
    refine sk (d := 229) sz (wanted_is rfl rfl e226 rfl) ?_
    intro a N; have sz := N.s sz; have df := N.d df; have e0 := N.o e0; have e1 := N.o e1; have e5 := N.o e5; have e226 := N.o e226; have e228 := N.o e228; have e229 := N.new
    refine sk (d := 230) sz (wanted_is rfl rfl e226 rfl) ?_
    intro a N; have sz := N.s sz; have df := N.d df; have e0 := N.o e0; have e1 := N.o e1; have e5 := N.o e5; have e226 := N.o e226; have e228 := N.o e228; have e230 := N.new
    refine sk (d := 231) sz (wanted_is rfl rfl e226 rfl) ?_
    intro a N; have sz := N.s sz; have df := N.d df; have e0 := N.o e0; have e1 := N.o e1; have e5 := N.o e5; have e226 := N.o e226; have e231 := N.new
    refine sk (d := 232) sz (wanted_is rfl rfl e226 rfl) ?_
    intro a N; have sz := N.s sz; have df := N.d df; have e0 := N.o e0; have e1 := N.o e1; have e5 := N.o e5; have e226 := N.o e226; have e232 := N.new
    refine tn (d := 233) (v := ?_) sz ?_ ?_
    rotate_left 1
    · (intro ρ hρ; have rc : ∀ v, ρ (.const v) = v := fun v => hρ _; have r226 := (hρ _).trans e226; have r232 := (hρ _).trans e232; simp [go_sem, rc, r226, r232] <;> with_reducible rfl)
    intro a N; have sz := N.s sz; have df := N.d df; have e0 := N.o e0; have e1 := N.o e1; have e5 := N.o e5; have e233 := N.new
    exact h _ w true ⟨sz, df, e0, e1⟩ e5 e233 ⟨fun h => (by cases h), fun h => absurd (congrArg (fun z => z.2.2.2.2.1) h) hf4⟩ (Keep.refl _ w)
  subst hf4
  refine tk (d := 196) (v := ?_) sz (wanted_is rfl rfl e191 rfl) ?_ ?_
  rotate_left 1
  · (intro ρ hρ; have r193 := (hρ _).trans e193; have r195 := (hρ _).trans e195; simp [go_sem, r193, r195] <;> with_reducible rfl)
  intro a N; have sz := N.s sz; have df := N.d df; have e0 := N.o e0; have e1 := N.o e1; have e5 := N.o e5; have e6 := N.o e6; have e7 := N.o e7; have e191 := N.o e191; have e196 := N.new
  refine tn (d := 197) (v := ?_) sz ?_ ?_
  rotate_left 1
  · (intro ρ hρ; have rc : ∀ v, ρ (.const v) = v := fun v => hρ _; have r191 := (hρ _).trans e191; have r196 := (hρ _).trans e196; simp [go_sem, rc, r191, r196] <;> with_reducible rfl)
  intro a N; have sz := N.s sz; have df := N.d df; have e0 := N.o e0; have e1 := N.o e1; have e5 := N.o e5; have e6 := N.o e6; have e7 := N.o e7; have e197 := N.new
  refine tn (d := 198) (v := ?_) sz ?_ ?_
  rotate_left 1
  · (intro ρ hρ; have r197 := (hρ _).trans e197; simp [go_sem, r197] <;> with_reducible rfl)
  intro a N; have sz := N.s sz; have df := N.d df; have e0 := N.o e0; have e1 := N.o e1; have e5 := N.o e5; have e6 := N.o e6; have e7 := N.o e7; have e198 := N.new
  refine tk (d := 199) (v := ?_) sz (wanted_is rfl rfl e198 rfl) ?_ ?_
  rotate_left 1
  · (intro ρ hρ; have r6 := (hρ _).trans e6; simp [go_sem, r6] <;> with_reducible rfl)
  intro a N; have sz := N.s sz; have df := N.d df; have e0 := N.o e0; have e1 := N.o e1; have e5 := N.o e5; have e6 := N.o e6; have e7 := N.o e7; have e198 := N.o e198; have e199 := N.new
  refine tk (d := 200) (v := ?_) sz (wanted_is rfl rfl e198 rfl) ?_ ?_
  rotate_left 1
  · (intro ρ hρ; have r199 := (hρ _).trans e199; simp [go_sem, r199, c5] <;> with_reducible rfl)
  intro a N; have sz := N.s sz; have df := N.d df; have e0 := N.o e0; have e1 := N.o e1; have e5 := N.o e5; have e6 := N.o e6; have e7 := N.o e7; have e198 := N.o e198; have e200 := N.new
  refine tk (d := 201) (v := ?_) sz (wanted_is rfl rfl e198 rfl) ?_ ?_
  rotate_left 1
  · (intro ρ hρ; have r7 := (hρ _).trans e7; simp [go_sem, r7] <;> with_reducible rfl)
  intro a N; have sz := N.s sz; have df := N.d df; have e0 := N.o e0; have e1 := N.o e1; have e5 := N.o e5; have e6 := N.o e6; have e7 := N.o e7; have e198 := N.o e198; have e200 := N.o e200; have e201 := N.new
  refine tk (d := 202) (v := ?_) sz (wanted_is rfl rfl e198 rfl) ?_ ?_
  rotate_left 1
  · (intro ρ hρ; have r201 := (hρ _).trans e201; simp [go_sem, r201, d5] <;> with_reducible rfl)
  intro a N; have sz := N.s sz; have df := N.d df; have e0 := N.o e0; have e1 := N.o e1; have e5 := N.o e5; have e6 := N.o e6; have e7 := N.o e7; have e198 := N.o e198; have e200 := N.o e200; have e202 := N.new
  by_cases hf5 : f5 = r5
  rotate_left 1
  · have hq : (f5 != r5) = true := by simpa using hf5
    refine tk (d := 203) (v := ?_) sz (wanted_is rfl rfl e198 rfl) ?_ ?_
    rotate_left 1
    · (intro ρ hρ; have r200 := (hρ _).trans e200; have r202 := (hρ _).trans e202; simp [go_sem, r200, r202, hq] <;> with_reducible rfl)
    intro a N; have sz := N.s sz; have df := N.d df; have e0 := N.o e0; have e1 := N.o e1; have e5 := N.o e5; have e6 := N.o e6; have e7 := N.o e7; have e198 := N.o e198; have e203 := N.new
    refine tn (d := 204) (v := ?_) sz ?_ ?_
    rotate_left 1
    · (intro ρ hρ; have rc : ∀ v, ρ (.const v) = v := fun v => hρ _; have r198 := (hρ _).trans e198; have r203 := (hρ _).trans e203; simp [go_sem, rc, r198, r203] <;> with_reducible rfl)
    intro a N; have sz := N.s sz; have df := N.d df; have e0 := N.o e0; have e1 := N.o e1; have e5 := N.o e5; have e6 := N.o e6; have e7 := N.o e7; have e204 := N.new
    refine tn (d := 205) (v := ?_) sz ?_ ?_
    rotate_left 1
    · (intro ρ hρ; have r204 := (hρ _).trans e204; simp [go_sem, r204] <;> with_reducible rfl)
    intro a N; have sz := N.s sz; have df := N.d df; have e0 := N.o e0; have e1 := N.o e1; have e5 := N.o e5; have e6 := N.o e6; have e7 := N.o e7; have e205 := N.new
    refine sk (d := 206) sz (wanted_is rfl rfl e205 rfl) ?_
    intro a N; have sz := N.s sz; have df := N.d df; have e0 := N.o e0; have e1 := N.o e1; have e5 := N.o e5; have e6 := N.o e6; have e7 := N.o e7; have e205 := N.o e205; have e206 := N.new
    refine sk (d := 207) sz (wanted_is rfl rfl e205 rfl) ?_
    intro a N; have sz := N.s sz; have df := N.d df; have e0 := N.o e0; have e1 := N.o e1; have e5 := N.o e5; have e6 := N.o e6; have e7 := N.o e7; have e205 := N.o e205; have e207 := N.new
    refine sk (d := 208) sz (wanted_is rfl rfl e205 rfl) ?_
    intro a N; have sz := N.s sz; have df := N.d df; have e0 := N.o e0; have e1 := N.o e1; have e5 := N.o e5; have e6 := N.o e6; have e7 := N.o e7; have e205 := N.o e205; have e207 := N.o e207; have e208 := N.new
    refine sk (d := 209) sz (wanted_is rfl rfl e205 rfl) ?_
    intro a N; have sz := N.s sz; have df := N.d df; have e0 := N.o e0; have e1 := N.o e1; have e5 := N.o e5; have e6 := N.o e6; have e7 := N.o e7; have e205 := N.o e205; have e207 := N.o e207; have e209 := N.new
    refine sk (d := 210) sz (wanted_is rfl rfl e205 rfl) ?_
    intro a N; have sz := N.s sz; have df := N.d df; have e0 := N.o e0; have e1 := N.o e1; have e5 := N.o e5; have e6 := N.o e6; have e7 := N.o e7; have e205 := N.o e205; have e210 := N.new
    refine tn (d := 211) (v := ?_) sz ?_ ?_
    rotate_left 1
    · (intro ρ hρ; have rc : ∀ v, ρ (.const v) = v := fun v => hρ _; have r205 := (hρ _).trans e205; have r210 := (hρ _).trans e210; simp [go_sem, rc, r205, r210] <;> with_reducible rfl)
    intro a N; have sz := N.s sz; have df := N.d df; have e0 := N.o e0; have e1 := N.o e1; have e5 := N.o e5; have e6 := N.o e6; have e7 := N.o e7; have e211 := N.new
    refine tn (d := 212) (v := ?_) sz ?_ ?_
    rotate_left 1
    · (intro ρ hρ; have r211 := (hρ _).trans e211; simp [go_sem, r211] <;> with_reducible rfl)
    intro a N; have sz := N.s sz; have df := N.d df; have e0 := N.o e0; have e1 := N.o e1; have e5 := N.o e5; have e6 := N.o e6; have e7 := N.o e7; have e212 := N.new
    refine sk (d := 213) sz (wanted_is rfl rfl e212 rfl) ?_
    intro a N; have sz := N.s sz; have df := N.d df; have e0 := N.o e0; have e1 := N.o e1; have e5 := N.o e5; have e6 := N.o e6; have e7 := N.o e7; have e212 := N.o e212; have e213 := N.new
    refine sk (d := 214) sz (wanted_is rfl rfl e212 rfl) ?_
    intro a N; have sz := N.s sz; have df := N.d df; have e0 := N.o e0; have e1 := N.o e1; have e5 := N.o e5; have e6 := N.o e6; have e7 := N.o e7; have e212 := N.o e212; have e214 := N.new
    refine sk (d := 215) sz (wanted_is rfl rfl e212 rfl) ?_
    intro a N; have sz := N.s sz; have df := N.d df; have e0 := N.o e0; have e1 := N.o e1; have e5 := N.o e5; have e6 := N.o e6; have e7 := N.o e7; have e212 := N.o e212; have e214 := N.o e214; have e215 := N.new
    refine sk (d := 216) sz (wanted_is rfl rfl e212 rfl) ?_
    intro a N; have sz := N.s sz; have df := N.d df; have e0 := N.o e0; have e1 := N.o e1; have e5 := N.o e5; have e6 := N.o e6; have e7 := N.o e7; have e212 := N.o e212; have e214 := N.o e214; have e216 := N.new
    refine sk (d := 217) sz (wanted_is rfl rfl e212 rfl) ?_
    intro a N; have sz := N.s sz; have df := N.d df; have e0 := N.o e0; have e1 := N.o e1; have e5 := N.o e5; have e6 := N.o e6; have e7 := N.o e7; have e212 := N.o e212; have e217 := N.new
    refine tn (d := 218) (v := ?_) sz ?_ ?_
    rotate_left 1
    · (intro ρ hρ; have rc : ∀ v, ρ (.const v) = v := fun v => hρ _; have r212 := (hρ _).trans e212; have r217 := (hρ _).trans e217; simp [go_sem, rc, r212, r217] <;> with_reducible rfl)
    intro a N; have sz := N.s sz; have df := N.d df; have e0 := N.o e0; have e1 := N.o e1; have e5 := N.o e5; have e6 := N.o e6; have e7 := N.o e7; have e218 := N.new
    refine tn (d := 219) (v := ?_) sz ?_ ?_
    rotate_left 1
    · (intro ρ hρ; have r218 := (hρ _).trans e218; simp [go_sem, r218] <;> with_reducible rfl)
    intro a N; have sz := N.s sz; have df := N.d df; have e0 := N.o e0; have e1 := N.o e1; have e5 := N.o e5; have e6 := N.o e6; have e7 := N.o e7; have e219 := N.new
    refine sk (d := 220) sz (wanted_is rfl rfl e219 rfl) ?_
    intro a N; have sz := N.s sz; have df := N.d df; have e0 := N.o e0; have e1 := N.o e1; have e5 := N.o e5; have e6 := N.o e6; have e7 := N.o e7; have e219 := N.o e219; have e220 := N.new
    refine sk (d := 221) sz (wanted_is rfl rfl e219 rfl) ?_
    intro a N; have sz := N.s sz; have df := N.d df; have e0 := N.o e0; have e1 := N.o e1; have e5 := N.o e5; have e6 := N.o e6; have e7 := N.o e7; have e219 := N.o e219; have e221 := N.new
    refine sk (d := 222) sz (wanted_is rfl rfl e219 rfl) ?_
    intro a N; have sz := N.s sz; have df := N.d df; have e0 := N.o e0; have e1 := N.o e1; have e5 := N.o e5; have e6 := N.o e6; have e7 := N.o e7; have e219 := N.o e219; have e221 := N.o e221; have e222 := N.new
    refine sk (d := 223) sz (wanted_is rfl rfl e219 rfl) ?_
    intro a N; have sz := N.s sz; have df := N.d df; have e0 := N.o e0; have e1 := N.o e1; have e5 := N.o e5; have e6 := N.o e6; have e7 := N.o e7; have e219 := N.o e219; have e221 := N.o e221; have e223 := N.new
    refine sk (d := 224) sz (wanted_is rfl rfl e219 rfl) ?_
    intro a N; have sz := N.s sz; have df := N.d df; have e0 := N.o e0; have e1 := N.o e1; have e5 := N.o e5; have e6 := N.o e6; have e7 := N.o e7; have e219 := N.o e219; have e224 := N.new
    refine tn (d := 225) (v := ?_) sz ?_ ?_
    rotate_left 1
    · (intro ρ hρ; have rc : ∀ v, ρ (.const v) = v := fun v => hρ _; have r219 := (hρ _).trans e219; have r224 := (hρ _).trans e224; simp [go_sem, rc, r219, r224] <;> with_reducible rfl)
    intro a N; have sz := N.s sz; have df := N.d df; have e0 := N.o e0; have e1 := N.o e1; have e5 := N.o e5; have e6 := N.o e6; have e7 := N.o e7; have e225 := N.new
    refine tn (d := 226) (v := ?_) sz ?_ ?_
    rotate_left 1
    · (intro ρ hρ; have r225 := (hρ _).trans e225; simp [go_sem, r225] <;> with_reducible rfl)
    intro a N; have sz := N.s sz; have df := N.d df; have e0 := N.o e0; have e1 := N.o e1; have e5 := N.o e5; have e6 := N.o e6; have e7 := N.o e7; have e226 := N.new
    refine sk (d := 227) sz (wanted_is rfl rfl e226 rfl) ?_
    intro a N; have sz := N.s sz; have df := N.d df; have e0 := N.o e0; have e1 := N.o e1; have e5 := N.o e5; have e7 := N.o e7; have e226 := N.o e226; have e227 := N.new
    refine sk (d := 228) sz (wanted_is rfl rfl e226 rfl) ?_
    intro a N; have sz := N.s sz; have df := N.d df; have e0 := N.o e0; have e1 := N.o e1; have e5 := N.o e5; have e7 := N.o e7; have e226 := N.o e226; have e228 := N.new
    refine sk (d := 229) sz (wanted_is rfl rfl e226 rfl) ?_
    intro a N; have sz := N.s sz; have df := N.d df; have e0 := N.o e0; have e1 := N.o e1; have e5 := N.o e5; have e226 := N.o e226; have e228 := N.o e228; have e229 := N.new
    refine sk (d := 230) sz (wanted_is rfl rfl e226 rfl) ?_
    intro a N; have sz := N.s sz; have df := N.d df; have e0 := N.o e0; have e1 := N.o e1; have e5 := N.o e5; have e226 := N.o e226; have e228 := N.o e228; have e230 := N.new
    refine sk (d := 231) sz (wanted_is rfl rfl e226 rfl) ?_
    intro a N; have sz := N.s sz; have df := N.d df; have e0 := N.o e0; have e1 := N.o e1; have e5 := N.o e5; have e226 := N.o e226; have e231 := N.new
    refine sk (d := 232) sz (wanted_is rfl rfl e226 rfl) ?_
    intro a N; have sz := N.s sz; have df := N.d df; have e0 := N.o e0; have e1 := N.o e1; have e5 := N.o e5; have e226 := N.o e226; have e232 := N.new
    refine tn (d := 233) (v := ?_) sz ?_ ?_
    rotate_left 1
    · (intro ρ hρ; have rc : ∀ v, ρ (.const v) = v := fun v => hρ _; have r226 := (hρ _).trans e226; have r232 := (hρ _).trans e232; simp [go_sem, rc, r226, r232] <;> with_reducible rfl)
    intro a N; have sz := N.s sz; have df := N.d df; have e0 := N.o e0; have e1 := N.o e1; have e5 := N.o e5; have e233 := N.new
    exact h _ w true ⟨sz, df, e0, e1⟩ e5 e233 ⟨fun h => (by cases h), fun h => absurd (congrArg (fun z => z.2.2.2.2.2.1) h) hf5⟩ (Keep.refl _ w)
  subst hf5
  refine tk (d := 203) (v := ?_) sz (wanted_is rfl rfl e198 rfl) ?_ ?_
  rotate_left 1
  · (intro ρ hρ; have r200 := (hρ _).trans e200; have r202 := (hρ _).trans e202; simp [go_sem, r200, r202] <;> with_reducible rfl)
  intro a N; have sz := N.s sz; have df := N.d df; have e0 := N.o e0; have e1 := N.o e1; have e5 := N.o e5; have e6 := N.o e6; have e7 := N.o e7; have e198 := N.o e198; have e203 := N.new
  refine tn (d := 204) (v := ?_) sz ?_ ?_
  rotate_left 1
  · (intro ρ hρ; have rc : ∀ v, ρ (.const v) = v := fun v => hρ _; have r198 := (hρ _).trans e198; have r203 := (hρ _).trans e203; simp [go_sem, rc, r198, r203] <;> with_reducible rfl)
  intro a N; have sz := N.s sz; have df := N.d df; have e0 := N.o e0; have e1 := N.o e1; have e5 := N.o e5; have e6 := N.o e6; have e7 := N.o e7; have e204 := N.new
  refine tn (d := 205) (v := ?_) sz ?_ ?_
  rotate_left 1
  · (intro ρ hρ; have r204 := (hρ _).trans e204; simp [go_sem, r204] <;> with_reducible rfl)
  intro a N; have sz := N.s sz; have df := N.d df; have e0 := N.o e0; have e1 := N.o e1; have e5 := N.o e5; have e6 := N.o e6; have e7 := N.o e7; have e205 := N.new
  refine tk (d := 206) (v := ?_) sz (wanted_is rfl rfl e205 rfl) ?_ ?_
  rotate_left 1
  · (intro ρ hρ; have r6 := (hρ _).trans e6; simp [go_sem, r6] <;> with_reducible rfl)
  intro a N; have sz := N.s sz; have df := N.d df; have e0 := N.o e0; have e1 := N.o e1; have e5 := N.o e5; have e6 := N.o e6; have e7 := N.o e7; have e205 := N.o e205; have e206 := N.new
  refine tk (d := 207) (v := ?_) sz (wanted_is rfl rfl e205 rfl) ?_ ?_
  rotate_left 1
  · (intro ρ hρ; have r206 := (hρ _).trans e206; simp [go_sem, r206, c6] <;> with_reducible rfl)
  intro a N; have sz := N.s sz; have df := N.d df; have e0 := N.o e0; have e1 := N.o e1; have e5 := N.o e5; have e6 := N.o e6; have e7 := N.o e7; have e205 := N.o e205; have e207 := N.new
  refine tk (d := 208) (v := ?_) sz (wanted_is rfl rfl e205 rfl) ?_ ?_
  rotate_left 1
  · (intro ρ hρ; have r7 := (hρ _).trans e7; simp [go_sem, r7] <;> with_reducible rfl)
  intro a N; have sz := N.s sz; have df := N.d df; have e0 := N.o e0; have e1 := N.o e1; have e5 := N.o e5; have e6 := N.o e6; have e7 := N.o e7; have e205 := N.o e205; have e207 := N.o e207; have e208 := N.new
  refine tk (d := 209) (v := ?_) sz (wanted_is rfl rfl e205 rfl) ?_ ?_
  rotate_left 1
  · (intro ρ hρ; have r208 := (hρ _).trans e208; simp [go_sem, r208, d6] <;> with_reducible rfl)
  intro a N; have sz := N.s sz; have df := N.d df; have e0 := N.o e0; have e1 := N.o e1; have e5 := N.o e5; have e6 := N.o e6; have e7 := N.o e7; have e205 := N.o e205; have e207 := N.o e207; have e209 := N.new
  by_cases hf6 : f6 = r6
  rotate_left 1
  · have hq : (f6 != r6) = true := by simpa using hf6
    refine tk (d := 210) (v := ?_) sz (wanted_is rfl rfl e205 rfl) ?_ ?_
    rotate_left 1
    · (intro ρ hρ; have r207 := (hρ _).trans e207; have r209 := (hρ _).trans e209; simp [go_sem, r207, r209, hq] <;> with_reducible rfl)
    intro a N; have sz := N.s sz; have df := N.d df; have e0 := N.o e0; have e1 := N.o e1; have e5 := N.o e5; have e6 := N.o e6; have e7 := N.o e7; have e205 := N.o e205; have e210 := N.new
    refine tn (d := 211) (v := ?_) sz ?_ ?_
    rotate_left 1
    · (intro ρ hρ; have rc : ∀ v, ρ (.const v) = v := fun v => hρ _; have r205 := (hρ _).trans e205; have r210 := (hρ _).trans e210; simp [go_sem, rc, r205, r210] <;> with_reducible rfl)
    intro a N; have sz := N.s sz; have df := N.d df; have e0 := N.o e0; have e1 := N.o e1; have e5 := N.o e5; have e6 := N.o e6; have e7 := N.o e7; have e211 := N.new
    refine tn (d := 212) (v := ?_) sz ?_ ?_
    rotate_left 1
    · (intro ρ hρ; have r211 := (hρ _).trans e211; simp [go_sem, r211] <;> with_reducible rfl)
    intro a N; have sz := N.s sz; have df := N.d df; have e0 := N.o e0; have e1 := N.o e1; have e5 := N.o e5; have e6 := N.o e6; have e7 := N.o e7; have e212 := N.new
    refine sk (d := 213) sz (wanted_is rfl rfl e212 rfl) ?_
    intro a N; have sz := N.s sz; have df := N.d df; have e0 := N.o e0; have e1 := N.o e1; have e5 := N.o e5; have e6 := N.o e6; have e7 := N.o e7; have e212 := N.o e212; have e213 := N.new
    refine sk (d := 214) sz (wanted_is rfl rfl e212 rfl) ?_
    intro a N; have sz := N.s sz; have df := N.d df; have e0 := N.o e0; have e1 := N.o e1; have e5 := N.o e5; have e6 := N.o e6; have e7 := N.o e7; have e212 := N.o e212; have e214 := N.new
    refine sk (d := 215) sz (wanted_is rfl rfl e212 rfl) ?_
    intro a N; have sz := N.s sz; have df := N.d df; have e0 := N.o e0; have e1 := N.o e1; have e5 := N.o e5; have e6 := N.o e6; have e7 := N.o e7; have e212 := N.o e212; have e214 := N.o e214; have e215 := N.new
    refine sk (d := 216) sz (wanted_is rfl rfl e212 rfl) ?_
    intro a N; have sz := N.s sz; have df := N.d df; have e0 := N.o e0; have e1 := N.o e1; have e5 := N.o e5; have e6 := N.o e6; have e7 := N.o e7; have e212 := N.o e212; have e214 := N.o e214; have e216 := N.new
    refine sk (d := 217) sz (wanted_is rfl rfl e212 rfl) ?_
    intro a N; have sz := N.s sz; have df := N.d df; have e0 := N.o e0; have e1 := N.o e1; have e5 := N.o e5; have e6 := N.o e6; have e7 := N.o e7; have e212 := N.o e212; have e217 := N.new
    refine tn (d := 218) (v := ?_) sz ?_ ?_
    rotate_left 1
    · (intro ρ hρ; have rc : ∀ v, ρ (.const v) = v := fun v => hρ _; have r212 := (hρ _).trans e212; have r217 := (hρ _).trans e217; simp [go_sem, rc, r212, r217] <;> with_reducible rfl)
    intro a N; have sz := N.s sz; have df := N.d df; have e0 := N.o e0; have e1 := N.o e1; have e5 := N.o e5; have e6 := N.o e6; have e7 := N.o e7; have e218 := N.new
    refine tn (d := 219) (v := ?_) sz ?_ ?_
    rotate_left 1
    · (intro ρ hρ; have r218 := (hρ _).trans e218; simp [go_sem, r218] <;> with_reducible rfl)
    intro a N; have sz := N.s sz; have df := N.d df; have e0 := N.o e0; have e1 := N.o e1; have e5 := N.o e5; have e6 := N.o e6; have e7 := N.o e7; have e219 := N.new
    refine sk (d := 220) sz (wanted_is rfl rfl e219 rfl) ?_
    intro a N; have sz := N.s sz; have df := N.d df; have e0 := N.o e0; have e1 := N.o e1; have e5 := N.o e5; have e6 := N.o e6; have e7 := N.o e7; have e219 := N.o e219; have e220 := N.new
    refine sk (d := 221) sz (wanted_is rfl rfl e219 rfl) ?_
    intro a N; have sz := N.s sz; have df := N.d df; have e0 := N.o e0; have e1 := N.o e1; have e5 := N.o e5; have e6 := N.o e6; have e7 := N.o e7; have e219 := N.o e219; have e221 := N.new
    refine sk (d := 222) sz (wanted_is rfl rfl e219 rfl) ?_
    intro a N; have sz := N.s sz; have df := N.d df; have e0 := N.o e0; have e1 := N.o e1; have e5 := N.o e5; have e6 := N.o e6; have e7 := N.o e7; have e219 := N.o e219; have e221 := N.o e221; have e222 := N.new
    refine sk (d := 223) sz (wanted_is rfl rfl e219 rfl) ?_
    intro a N; have sz := N.s sz; have df := N.d df; have e0 := N.o e0; have e1 := N.o e1; have e5 := N.o e5; have e6 := N.o e6; have e7 := N.o e7; have e219 := N.o e219; have e221 := N.o e221; have e223 := N.new
    refine sk (d := 224) sz (wanted_is rfl rfl e219 rfl) ?_
    intro a N; have sz := N.s sz; have df := N.d df; have e0 := N.o e0; have e1 := N.o e1; have e5 := N.o e5; have e6 := N.o e6; have e7 := N.o e7; have e219 := N.o e219; have e224 := N.new
    refine tn (d := 225) (v := ?_) sz ?_ ?_
    rotate_left 1
    · (intro ρ hρ; have rc : ∀ v, ρ (.const v) = v := fun v => hρ _; have r219 := (hρ _).trans e219; have r224 := (hρ _).trans e224; simp [go_sem, rc, r219, r224] <;> with_reducible rfl)
    intro a N; have sz := N.s sz; have df := N.d df; have e0 := N.o e0; have e1 := N.o e1; have e5 := N.o e5; have e6 := N.o e6; have e7 := N.o e7; have e225 := N.new
    refine tn (d := 226) (v := ?_) sz ?_ ?_
    rotate_left 1
    · (intro ρ hρ; have r225 := (hρ _).trans e225; simp [go_sem, r225] <;> with_reducible rfl)
    intro a N; have sz := N.s sz; have df := N.d df; have e0 := N.o e0; have e1 := N.o e1; have e5 := N.o e5; have e6 := N.o e6; have e7 := N.o e7; have e226 := N.new
    refine sk (d := 227) sz (wanted_is rfl rfl e226 rfl) ?_
    intro a N; have sz := N.s sz; have df := N.d df; have e0 := N.o e0; have e1 := N.o e1; have e5 := N.o e5; have e7 := N.o e7; have e226 := N.o e226; have e227 := N.new
    refine sk (d := 228) sz (wanted_is rfl rfl e226 rfl) ?_
    intro a N; have sz := N.s sz; have df := N.d df; have e0 := N.o e0; have e1 := N.o e1; have e5 := N.o e5; have e7 := N.o e7; have e226 := N.o e226; have e228 := N.new
    refine sk (d := 229) sz (wanted_is rfl rfl e226 rfl) ?_
    intro a N; have sz := N.s sz; have df := N.d df; have e0 := N.o e0; have e1 := N.o e1; have e5 := N.o e5; have e226 := N.o e226; have e228 := N.o e228; have e229 := N.new
    refine sk (d := 230) sz (wanted_is rfl rfl e226 rfl) ?_
    intro a N; have sz := N.s sz; have df := N.d df; have e0 := N.o e0; have e1 := N.o e1; have e5 := N.o e5; have e226 := N.o e226; have e228 := N.o e228; have e230 := N.new
    refine sk (d := 231) sz (wanted_is rfl rfl e226 rfl) ?_
    intro a N; have sz := N.s sz; have df := N.d df; have e0 := N.o e0; have e1 := N.o e1; have e5 := N.o e5; have e226 := N.o e226; have e231 := N.new
    refine sk (d := 232) sz (wanted_is rfl rfl e226 rfl) ?_
    intro a N; have sz := N.s sz; have df := N.d df; have e0 := N.o e0; have e1 := N.o e1; have e5 := N.o e5; have e226 := N.o e226; have e232 := N.new
    refine tn (d := 233) (v := ?_) sz ?_ ?_
    rotate_left 1
    · (intro ρ hρ; have rc : ∀ v, ρ (.const v) = v := fun v => hρ _; have r226 := (hρ _).trans e226; have r232 := (hρ _).trans e232; simp [go_sem, rc, r226, r232] <;> with_reducible rfl)
    intro a N; have sz := N.s sz; have df := N.d df; have e0 := N.o e0; have e1 := N.o e1; have e5 := N.o e5; have e233 := N.new
    exact h _ w true ⟨sz, df, e0, e1⟩ e5 e233 ⟨fun h => (by cases h), fun h => absurd (congrArg (fun z => z.2.2.2.2.2.2.1) h) hf6⟩ (Keep.refl _ w)
  subst hf6
  refine tk (d := 210) (v := ?_) sz (wanted_is rfl rfl e205 rfl) ?_ ?_
  rotate_left 1
  · (intro ρ hρ; have r207 := (hρ _).trans e207; have r209 := (hρ _).trans e209; simp [go_sem, r207, r209] <;> with_reducible rfl)
  intro a N; have sz := N.s sz; have df := N.d df; have e0 := N.o e0; have e1 := N.o e1; have e5 := N.o e5; have e6 := N.o e6; have e7 := N.o e7; have e205 := N.o e205; have e210 := N.new
  refine tn (d := 211) (v := ?_) sz ?_ ?_
  rotate_left 1
  · (intro ρ hρ; have rc : ∀ v, ρ (.const v) = v := fun v => hρ _; have r205 := (hρ _).trans e205; have r210 := (hρ _).trans e210; simp [go_sem, rc, r205, r210] <;> with_reducible rfl)
  intro a N; have sz := N.s sz; have df := N.d df; have e0 := N.o e0; have e1 := N.o e1; have e5 := N.o e5; have e6 := N.o e6; have e7 := N.o e7; have e211 := N.new
  refine tn (d := 212) (v := ?_) sz ?_ ?_
  rotate_left 1
  · (intro ρ hρ; have r211 := (hρ _).trans e211; simp [go_sem, r211] <;> with_reducible rfl)
  intro a N; have sz := N.s sz; have df := N.d df; have e0 := N.o e0; have e1 := N.o e1; have e5 := N.o e5; have e6 := N.o e6; have e7 := N.o e7; have e212 := N.new
  refine tk (d := 213) (v := ?_) sz (wanted_is rfl rfl e212 rfl) ?_ ?_
  rotate_left 1
  · (intro ρ hρ; have r6 := (hρ _).trans e6; simp [go_sem, r6] <;> with_reducible rfl)
  intro a N; have sz := N.s sz; have df := N.d df; have e0 := N.o e0; have e1 := N.o e1; have e5 := N.o e5; have e6 := N.o e6; have e7 := N.o e7; have e212 := N.o e212; have e213 := N.new
  refine tk (d := 214) (v := ?_) sz (wanted_is rfl rfl e212 rfl) ?_ ?_
  rotate_left 1
  · (intro ρ hρ; have r213 := (hρ _).trans e213; simp [go_sem, r213, c7] <;> with_reducible rfl)
  intro a N; have sz := N.s sz; have df := N.d df; have e0 := N.o e0; have e1 := N.o e1; have e5 := N.o e5; have e6 := N.o e6; have e7 := N.o e7; have e212 := N.o e212; have e214 := N.new
  refine tk (d := 215) (v := ?_) sz (wanted_is rfl rfl e212 rfl) ?_ ?_
  rotate_left 1
  · (intro ρ hρ; have r7 := (hρ _).trans e7; simp [go_sem, r7] <;> with_reducible rfl)
  intro a N; have sz := N.s sz; have df := N.d df; have e0 := N.o e0; have e1 := N.o e1; have e5 := N.o e5; have e6 := N.o e6; have e7 := N.o e7; have e212 := N.o e212; have e214 := N.o e214; have e215 := N.new
  refine tk (d := 216) (v := ?_) sz (wanted_is rfl rfl e212 rfl) ?_ ?_
  rotate_left 1
  · (intro ρ hρ; have r215 := (hρ _).trans e215; simp [go_sem, r215, d7] <;> with_reducible rfl)
  intro a N; have sz := N.s sz; have df := N.d df; have e0 := N.o e0; have e1 := N.o e1; have e5 := N.o e5; have e6 := N.o e6; have e7 := N.o e7; have e212 := N.o e212; have e214 := N.o e214; have e216 := N.new
  by_cases hf7 : f7 = r7
  rotate_left 1
  · have hq : (f7 != r7) = true := by simpa using hf7
    refine tk (d := 217) (v := ?_) sz (wanted_is rfl rfl e212 rfl) ?_ ?_
    rotate_left 1
    · (intro ρ hρ; have r214 := (hρ _).trans e214; have r216 := (hρ _).trans e216; simp [go_sem, r214, r216, hq] <;> with_reducible rfl)
    intro a N; have sz := N.s sz; have df := N.d df; have e0 := N.o e0; have e1 := N.o e1; have e5 := N.o e5; have e6 := N.o e6; have e7 := N.o e7; have e212 := N.o e212; have e217 := N.new
    refine tn (d := 218) (v := ?_) sz ?_ ?_
    rotate_left 1
    · (intro ρ hρ; have rc : ∀ v, ρ (.const v) = v := fun v => hρ _; have r212 := (hρ _).trans e212; have r217 := (hρ _).trans e217; simp [go_sem, rc, r212, r217] <;> with_reducible rfl)
    intro a N; have sz := N.s sz; have df := N.d df; have e0 := N.o e0; have e1 := N.o e1; have e5 := N.o e5; have e6 := N.o e6; have e7 := N.o e7; have e218 := N.new
    refine tn (d := 219) (v := ?_) sz ?_ ?_
    rotate_left 1
    · (intro ρ hρ; have r218 := (hρ _).trans e218; simp [go_sem, r218] <;> with_reducible rfl)
    intro a N; have sz := N.s sz; have df := N.d df; have e0 := N.o e0; have e1 := N.o e1; have e5 := N.o e5; have e6 := N.o e6; have e7 := N.o e7; have e219 := N.new
    refine sk (d := 220) sz (wanted_is rfl rfl e219 rfl) ?_
    intro a N; have sz := N.s sz; have df := N.d df; have e0 := N.o e0; have e1 := N.o e1; have e5 := N.o e5; have e6 := N.o e6; have e7 := N.o e7; have e219 := N.o e219; have e220 := N.new
    refine sk (d := 221) sz (wanted_is rfl rfl e219 rfl) ?_
    intro a N; have sz := N.s sz; have df := N.d df; have e0 := N.o e0; have e1 := N.o e1; have e5 := N.o e5; have e6 := N.o e6; have e7 := N.o e7; have e219 := N.o e219; have e221 := N.new
    refine sk (d := 222) sz (wanted_is rfl rfl e219 rfl) ?_
    intro a N; have sz := N.s sz; have df := N.d df; have e0 := N.o e0; have e1 := N.o e1; have e5 := N.o e5; have e6 := N.o e6; have e7 := N.o e7; have e219 := N.o e219; have e221 := N.o e221; have e222 := N.new
    refine sk (d := 223) sz (wanted_is rfl rfl e219 rfl) ?_
    intro a N; have sz := N.s sz; have df := N.d df; have e0 := N.o e0; have e1 := N.o e1; have e5 := N.o e5; have e6 := N.o e6; have e7 := N.o e7; have e219 := N.o e219; have e221 := N.o e221; have e223 := N.new
    refine sk (d := 224) sz (wanted_is rfl rfl e219 rfl) ?_
    intro a N; have sz := N.s sz; have df := N.d df; have e0 := N.o e0; have e1 := N.o e1; have e5 := N.o e5; have e6 := N.o e6; have e7 := N.o e7; have e219 := N.o e219; have e224 := N.new
    refine tn (d := 225) (v := ?_) sz ?_ ?_
    rotate_left 1
    · (intro ρ hρ; have rc : ∀ v, ρ (.const v) = v := fun v => hρ _; have r219 := (hρ _).trans e219; have r224 := (hρ _).trans e224; simp [go_sem, rc, r219, r224] <;> with_reducible rfl)
    intro a N; have sz := N.s sz; have df := N.d df; have e0 := N.o e0; have e1 := N.o e1; have e5 := N.o e5; have e6 := N.o e6; have e7 := N.o e7; have e225 := N.new
    refine tn (d := 226) (v := ?_) sz ?_ ?_
    rotate_left 1
    · (intro ρ hρ; have r225 := (hρ _).trans e225; simp [go_sem, r225] <;> with_reducible rfl)
    intro a N; have sz := N.s sz; have df := N.d df; have e0 := N.o e0; have e1 := N.o e1; have e5 := N.o e5; have e6 := N.o e6; have e7 := N.o e7; have e226 := N.new
    refine sk (d := 227) sz (wanted_is rfl rfl e226 rfl) ?_
    intro a N; have sz := N.s sz; have df := N.d df; have e0 := N.o e0; have e1 := N.o e1; have e5 := N.o e5; have e7 := N.o e7; have e226 := N.o e226; have e227 := N.new
    refine sk (d := 228) sz (wanted_is rfl rfl e226 rfl) ?_
    intro a N; have sz := N.s sz; have df := N.d df; have e0 := N.o e0; have e1 := N.o e1; have e5 := N.o e5; have e7 := N.o e7; have e226 := N.o e226; have e228 := N.new
    refine sk (d := 229) sz (wanted_is rfl rfl e226 rfl) ?_
    intro a N; have sz := N.s sz; have df := N.d df; have e0 := N.o e0; have e1 := N.o e1; have e5 := N.o e5; have e226 := N.o e226; have e228 := N.o e228; have e229 := N.new
    refine sk (d := 230) sz (wanted_is rfl rfl e226 rfl) ?_
    intro a N; have sz := N.s sz; have df := N.d df; have e0 := N.o e0; have e1 := N.o e1; have e5 := N.o e5; have e226 := N.o e226; have e228 := N.o e228; have e230 := N.new
    refine sk (d := 231) sz (wanted_is rfl rfl e226 rfl) ?_
    intro a N; have sz := N.s sz; have df := N.d df; have e0 := N.o e0; have e1 := N.o e1; have e5 := N.o e5; have e226 := N.o e226; have e231 := N.new
    refine sk (d := 232) sz (wanted_is rfl rfl e226 rfl) ?_
    intro a N; have sz := N.s sz; have df := N.d df; have e0 := N.o e0; have e1 := N.o e1; have e5 := N.o e5; have e226 := N.o e226; have e232 := N.new
    refine tn (d := 233) (v := ?_) sz ?_ ?_
    rotate_left 1
    · (intro ρ hρ; have rc : ∀ v, ρ (.const v) = v := fun v => hρ _; have r226 := (hρ _).trans e226; have r232 := (hρ _).trans e232; simp [go_sem, rc, r226, r232] <;> with_reducible rfl)
    intro a N; have sz := N.s sz; have df := N.d df; have e0 := N.o e0; have e1 := N.o e1; have e5 := N.o e5; have e233 := N.new
    exact h _ w true ⟨sz, df, e0, e1⟩ e5 e233 ⟨fun h => (by cases h), fun h => absurd (congrArg (fun z => z.2.2.2.2.2.2.2.1) h) hf7⟩ (Keep.refl _ w)
  subst hf7
  refine tk (d := 217) (v := ?_) sz (wanted_is rfl rfl e212 rfl) ?_ ?_
  rotate_left 1
  · (intro ρ hρ; have r214 := (hρ _).trans e214; have r216 := (hρ _).trans e216; simp [go_sem, r214, r216] <;> with_reducible rfl)
  intro a N; have sz := N.s sz; have df := N.d df; have e0 := N.o e0; have e1 := N.o e1; have e5 := N.o e5; have e6 := N.o e6; have e7 := N.o e7; have e212 := N.o e212; have e217 := N.new
  refine tn (d := 218) (v := ?_) sz ?_ ?_
  rotate_left 1
  · (intro ρ hρ; have rc : ∀ v, ρ (.const v) = v := fun v => hρ _; have r212 := (hρ _).trans e212; have r217 := (hρ _).trans e217; simp [go_sem, rc, r212, r217] <;> with_reducible rfl)
  intro a N; have sz := N.s sz; have df := N.d df; have e0 := N.o e0; have e1 := N.o e1; have e5 := N.o e5; have e6 := N.o e6; have e7 := N.o e7; have e218 := N.new
  refine tn (d := 219) (v := ?_) sz ?_ ?_
  rotate_left 1
  · (intro ρ hρ; have r218 := (hρ _).trans e218; simp [go_sem, r218] <;> with_reducible rfl)
  intro a N; have sz := N.s sz; have df := N.d df; have e0 := N.o e0; have e1 := N.o e1; have e5 := N.o e5; have e6 := N.o e6; have e7 := N.o e7; have e219 := N.new
  refine tk (d := 220) (v := ?_) sz (wanted_is rfl rfl e219 rfl) ?_ ?_
  rotate_left 1
  · (intro ρ hρ; have r6 := (hρ _).trans e6; simp [go_sem, r6] <;> with_reducible rfl)
  intro a N; have sz := N.s sz; have df := N.d df; have e0 := N.o e0; have e1 := N.o e1; have e5 := N.o e5; have e6 := N.o e6; have e7 := N.o e7; have e219 := N.o e219; have e220 := N.new
  refine tk (d := 221) (v := ?_) sz (wanted_is rfl rfl e219 rfl) ?_ ?_
  rotate_left 1
  · (intro ρ hρ; have r220 := (hρ _).trans e220; simp [go_sem, r220, c8] <;> with_reducible rfl)
  intro a N; have sz := N.s sz; have df := N.d df; have e0 := N.o e0; have e1 := N.o e1; have e5 := N.o e5; have e6 := N.o e6; have e7 := N.o e7; have e219 := N.o e219; have e221 := N.new
  refine tk (d := 222) (v := ?_) sz (wanted_is rfl rfl e219 rfl) ?_ ?_
  rotate_left 1
  · (intro ρ hρ; have r7 := (hρ _).trans e7; simp [go_sem, r7] <;> with_reducible rfl)
  intro a N; have sz := N.s sz; have df := N.d df; have e0 := N.o e0; have e1 := N.o e1; have e5 := N.o e5; have e6 := N.o e6; have e7 := N.o e7; have e219 := N.o e219; have e221 := N.o e221; have e222 := N.new
  refine tk (d := 223) (v := ?_) sz (wanted_is rfl rfl e219 rfl) ?_ ?_
  rotate_left 1
  · (intro ρ hρ; have r222 := (hρ _).trans e222; simp [go_sem, r222, d8] <;> with_reducible rfl)
  intro a N; have sz := N.s sz; have df := N.d df; have e0 := N.o e0; have e1 := N.o e1; have e5 := N.o e5; have e6 := N.o e6; have e7 := N.o e7; have e219 := N.o e219; have e221 := N.o e221; have e223 := N.new
  by_cases hf8 : f8 = r8
  rotate_left 1
  · have hq : (f8 != r8) = true := by simpa using hf8
    refine tk (d := 224) (v := ?_) sz (wanted_is rfl rfl e219 rfl) ?_ ?_
    rotate_left 1
    · (intro ρ hρ; have r221 := (hρ _).trans e221; have r223 := (hρ _).trans e223; simp [go_sem, r221, r223, hq] <;> with_reducible rfl)
    intro a N; have sz := N.s sz; have df := N.d df; have e0 := N.o e0; have e1 := N.o e1; have e5 := N.o e5; have e6 := N.o e6; have e7 := N.o e7; have e219 := N.o e219; have e224 := N.new
    refine tn (d := 225) (v := ?_) sz ?_ ?_
    rotate_left 1
    · (intro ρ hρ; have rc : ∀ v, ρ (.const v) = v := fun v => hρ _; have r219 := (hρ _).trans e219; have r224 := (hρ _).trans e224; simp [go_sem, rc, r219, r224] <;> with_reducible rfl)
    intro a N; have sz := N.s sz; have df := N.d df; have e0 := N.o e0; have e1 := N.o e1; have e5 := N.o e5; have e6 := N.o e6; have e7 := N.o e7; have e225 := N.new
    refine tn (d := 226) (v := ?_) sz ?_ ?_
    rotate_left 1
    · (intro ρ hρ; have r225 := (hρ _).trans e225; simp [go_sem, r225] <;> with_reducible rfl)
    intro a N; have sz := N.s sz; have df := N.d df; have e0 := N.o e0; have e1 := N.o e1; have e5 := N.o e5; have e6 := N.o e6; have e7 := N.o e7; have e226 := N.new
    refine sk (d := 227) sz (wanted_is rfl rfl e226 rfl) ?_
    intro a N; have sz := N.s sz; have df := N.d df; have e0 := N.o e0; have e1 := N.o e1; have e5 := N.o e5; have e7 := N.o e7; have e226 := N.o e226; have e227 := N.new
    refine sk (d := 228) sz (wanted_is rfl rfl e226 rfl) ?_
    intro a N; have sz := N.s sz; have df := N.d df; have e0 := N.o e0; have e1 := N.o e1; have e5 := N.o e5; have e7 := N.o e7; have e226 := N.o e226; have e228 := N.new
    refine sk (d := 229) sz (wanted_is rfl rfl e226 rfl) ?_
    intro a N; have sz := N.s sz; have df := N.d df; have e0 := N.o e0; have e1 := N.o e1; have e5 := N.o e5; have e226 := N.o e226; have e228 := N.o e228; have e229 := N.new
    refine sk (d := 230) sz (wanted_is rfl rfl e226 rfl) ?_
    intro a N; have sz := N.s sz; have df := N.d df; have e0 := N.o e0; have e1 := N.o e1; have e5 := N.o e5; have e226 := N.o e226; have e228 := N.o e228; have e230 := N.new
    refine sk (d := 231) sz (wanted_is rfl rfl e226 rfl) ?_
    intro a N; have sz := N.s sz; have df := N.d df; have e0 := N.o e0; have e1 := N.o e1; have e5 := N.o e5; have e226 := N.o e226; have e231 := N.new
    refine sk (d := 232) sz (wanted_is rfl rfl e226 rfl) ?_
    intro a N; have sz := N.s sz; have df := N.d df; have e0 := N.o e0; have e1 := N.o e1; have e5 := N.o e5; have e226 := N.o e226; have e232 := N.new
    refine tn (d := 233) (v := ?_) sz ?_ ?_
    rotate_left 1
    · (intro ρ hρ; have rc : ∀ v, ρ (.const v) = v := fun v => hρ _; have r226 := (hρ _).trans e226; have r232 := (hρ _).trans e232; simp [go_sem, rc, r226, r232] <;> with_reducible rfl)
    intro a N; have sz := N.s sz; have df := N.d df; have e0 := N.o e0; have e1 := N.o e1; have e5 := N.o e5; have e233 := N.new
    exact h _ w true ⟨sz, df, e0, e1⟩ e5 e233 ⟨fun h => (by cases h), fun h => absurd (congrArg (fun z => z.2.2.2.2.2.2.2.2.1) h) hf8⟩ (Keep.refl _ w)
  subst hf8
  refine tk (d := 224) (v := ?_) sz (wanted_is rfl rfl e219 rfl) ?_ ?_
  rotate_left 1
  · (intro ρ hρ; have r221 := (hρ _).trans e221; have r223 := (hρ _).trans e223; simp [go_sem, r221, r223] <;> with_reducible rfl)
  intro a N; have sz := N.s sz; have df := N.d df; have e0 := N.o e0; have e1 := N.o e1; have e5 := N.o e5; have e6 := N.o e6; have e7 := N.o e7; have e219 := N.o e219; have e224 := N.new
  refine tn (d := 225) (v := ?_) sz ?_ ?_
  rotate_left 1
  · (intro ρ hρ; have rc : ∀ v, ρ (.const v) = v := fun v => hρ _; have r219 := (hρ _).trans e219; have r224 := (hρ _).trans e224; simp [go_sem, rc, r219, r224] <;> with_reducible rfl)
  intro a N; have sz := N.s sz; have df := N.d df; have e0 := N.o e0; have e1 := N.o e1; have e5 := N.o e5; have e6 := N.o e6; have e7 := N.o e7; have e225 := N.new
  refine tn (d := 226) (v := ?_) sz ?_ ?_
  rotate_left 1
  · (intro ρ hρ; have r225 := (hρ _).trans e225; simp [go_sem, r225] <;> with_reducible rfl)
  intro a N; have sz := N.s sz; have df := N.d df; have e0 := N.o e0; have e1 := N.o e1; have e5 := N.o e5; have e6 := N.o e6; have e7 := N.o e7; have e226 := N.new
  refine tk (d := 227) (v := ?_) sz (wanted_is rfl rfl e226 rfl) ?_ ?_
  rotate_left 1
  · (intro ρ hρ; have r6 := (hρ _).trans e6; simp [go_sem, r6] <;> with_reducible rfl)
  intro a N; have sz := N.s sz; have df := N.d df; have e0 := N.o e0; have e1 := N.o e1; have e5 := N.o e5; have e7 := N.o e7; have e226 := N.o e226; have e227 := N.new
  refine tk (d := 228) (v := ?_) sz (wanted_is rfl rfl e226 rfl) ?_ ?_
  rotate_left 1
  · (intro ρ hρ; have r227 := (hρ _).trans e227; simp [go_sem, r227, c9] <;> with_reducible rfl)
  intro a N; have sz := N.s sz; have df := N.d df; have e0 := N.o e0; have e1 := N.o e1; have e5 := N.o e5; have e7 := N.o e7; have e226 := N.o e226; have e228 := N.new
  refine tk (d := 229) (v := ?_) sz (wanted_is rfl rfl e226 rfl) ?_ ?_
  rotate_left 1
  · (intro ρ hρ; have r7 := (hρ _).trans e7; simp [go_sem, r7] <;> with_reducible rfl)
  intro a N; have sz := N.s sz; have df := N.d df; have e0 := N.o e0; have e1 := N.o e1; have e5 := N.o e5; have e226 := N.o e226; have e228 := N.o e228; have e229 := N.new
  refine tk (d := 230) (v := ?_) sz (wanted_is rfl rfl e226 rfl) ?_ ?_
  rotate_left 1
  · (intro ρ hρ; have r229 := (hρ _).trans e229; simp [go_sem, r229, d9] <;> with_reducible rfl)
  intro a N; have sz := N.s sz; have df := N.d df; have e0 := N.o e0; have e1 := N.o e1; have e5 := N.o e5; have e226 := N.o e226; have e228 := N.o e228; have e230 := N.new
  have en : ∀ args w, (callFunc 49 args).run Try.prog w = .ok (.enter 49 args) w := enters_of Try.func49 (by kernel_rfl) rfl
  refine wpl_call (d := 231) (f := 49) (args := #[.slice fa fn fd, .slice ra rn rd]) rfl (by rw [sz]; decide) (wanted_is rfl rfl e226 rfl) (fun ρ hρ => ?_) (rInts_any hfl hrl) ?_
  · (have r228 := (hρ (.tmp 228)).trans e228; have r230 := (hρ (.tmp 230)).trans e230; have rf : ∀ f, ρ (.func f) = .func (.func f) #[] #[] := fun f => hρ _; simp [go_sem, r228, r230, rf, en])
  rintro e wd ⟨bb, rfl, hbb, kd⟩
  refine ⟨_, rfl, ?_⟩
  intro a N; have sz := N.s sz; have df := N.d df; have e0 := N.o e0; have e1 := N.o e1; have e5 := N.o e5; have e226 := N.o e226; have e231 := N.new
  cases bb with
  | false =>
    refine tk (d := 232) (v := ?_) sz (wanted_is rfl rfl e226 rfl) ?_ ?_
    rotate_left 1
    · (intro ρ hρ; have r231 := (hρ _).trans e231; simp [go_sem, r231] <;> with_reducible rfl)
    intro a N; have sz := N.s sz; have df := N.d df; have e0 := N.o e0; have e1 := N.o e1; have e5 := N.o e5; have e226 := N.o e226; have e232 := N.new
    refine tn (d := 233) (v := ?_) sz ?_ ?_
    rotate_left 1
    · (intro ρ hρ; have rc : ∀ v, ρ (.const v) = v := fun v => hρ _; have r226 := (hρ _).trans e226; have r232 := (hρ _).trans e232; simp [go_sem, rc, r226, r232] <;> with_reducible rfl)
    intro a N; have sz := N.s sz; have df := N.d df; have e0 := N.o e0; have e1 := N.o e1; have e5 := N.o e5; have e233 := N.new
    exact h _ wd true ⟨sz, df, e0, e1⟩ e5 e233 ⟨fun h => (by cases h), fun h => absurd (hbb.2 (congrArg (fun z => z.2.2.2.2.2.2.2.2.2) h)) (by decide)⟩ kd
  | true =>
    obtain rfl := hbb.1 rfl
    refine tk (d := 232) (v := ?_) sz (wanted_is rfl rfl e226 rfl) ?_ ?_
    rotate_left 1
    · (intro ρ hρ; have r231 := (hρ _).trans e231; simp [go_sem, r231] <;> with_reducible rfl)
    intro a N; have sz := N.s sz; have df := N.d df; have e0 := N.o e0; have e1 := N.o e1; have e5 := N.o e5; have e226 := N.o e226; have e232 := N.new
    refine tn (d := 233) (v := ?_) sz ?_ ?_
    rotate_left 1
    · (intro ρ hρ; have rc : ∀ v, ρ (.const v) = v := fun v => hρ _; have r226 := (hρ _).trans e226; have r232 := (hρ _).trans e232; simp [go_sem, rc, r226, r232] <;> with_reducible rfl)
    intro a N; have sz := N.s sz; have df := N.d df; have e0 := N.o e0; have e1 := N.o e1; have e5 := N.o e5; have e233 := N.new
    exact h _ wd false ⟨sz, df, e0, e1⟩ e5 e233 ⟨fun _ => rfl, fun _ => rfl⟩ kd

theorem reC_loop {g o g' o' n d1 d2 : Nat} {w0 : World} {b1 b2 : Option Addr} {xs ys : List (ByteArray × ByteArray × Bool × Int × Int × Int × Int × Int × Int × List Int)} {Pb Qb : Nat → Prop} {Q : Exit → Act → World → Prop} (hQ : PanicOnly Q) (hX : LAt eChar Pb w0 (.slice b1 n d1) xs) (hY : LAt eChar Qb w0 (.slice b2 n d2) ys) (hn : n = xs.length) (hm : n = ys.length)
    (HP : Hid (∀ w', Keep (fun _ => False) w0 w' → w'.cell? ⟨g, o + 3, none⟩ = some (.slice b1 n d1) ∧ w'.cell? ⟨g', o' + 3, none⟩ = some (.slice b2 n d2)))
    (hret : ∀ a w, FrE (.pointer (some ⟨g, o, none⟩)) (.pointer (some ⟨g', o', none⟩)) a → a.eval (.tmp 4) = .bool false → Keep (fun _ => False) w0 w → xs ≠ ys → Q .ret a w)
    (hdone : ∀ a w, FrE (.pointer (some ⟨g, o, none⟩)) (.pointer (some ⟨g', o', none⟩)) a → Keep (fun _ => False) w0 w → xs = ys → Q .normal a w)
    {a : Act} {w : World} (ha : FrE (.pointer (some ⟨g, o, none⟩)) (.pointer (some ⟨g', o', none⟩)) a) (hi : a.eval (.tmp 5) = .int .i64 0) (hk : Keep (fun _ => False) w0 w) :
    (Code.block 0 (Code.loop (((rgEq 6).seq (Code.cond (.tmp 148) .skip (.exit 0))).seq ((Code.block 1 ((rgEq 8).seq ((rgEq 9).seq (Code.cond (.tmp 233) ((rgEq 10).seq .ret) .skip)))).seq (rgEq 7))))).wp Try.prog Q a w := by
  have hcap : (n : Int) ≤ 9223372036854775807 := by obtain ⟨_, _, e, _, h9, _⟩ := hX; simp only [Value.slice.injEq] at e; obtain ⟨_, h8, _⟩ := e; have := ‹_ ≤ maxLen›; unfold maxLen at *; omega
  refine eqLoop (i := 5) (c1 := 148) (c2 := 233) (RR := rgEq 10) (by rw [← hn, ← hm]) hQ (fun a w k Q ha hi hk h => reC_cond (n := n) ha hi (HP.out _ hk).1 (fun a' ha' hi' hc' => h a' ha' hi' (by rw [hc', hn]))) ?_ (fun a w Q ha h => reC_ret ha h) (fun a w k Q ha hi hlt h => reC_post ha hi (by omega) h) hret hdone ha hi hk
  intro a w k x y Q hQ ha hi hk hx hy h
  have hkn : k < n := by have := (List.getElem?_eq_some_iff.1 hx).1; omega
  obtain ⟨g1, o1, cs1, rfl, hg1, _, hH1, hr1⟩ := (hX.keep hk (fun _ _ _ h => h)).get k x hx
  obtain ⟨g2, o2, cs2, rfl, hg2, _, hH2, hr2⟩ := (hY.keep hk (fun _ _ _ h => h)).get k y hy
  obtain ⟨f0, f1, f2, f3, f4, f5, f6, f7, f8, fl⟩ := x
  obtain ⟨r0, r1, r2, r3, r4, r5, r6, r7, r8, rl⟩ := y
  obtain ⟨fv, hfl, hcs1⟩ := hH1
  obtain ⟨rv, hrl, hcs2⟩ := hH2
  simp only at hcs1 hcs2 hfl hrl
  obtain ⟨fa, fd, rfl, _⟩ := hfl.slice
  obtain ⟨ra, rd, rfl, _⟩ := hrl.slice
  subst hcs1 hcs2
  have HPP : Hid (∀ w', Keep (fun _ => False) w w' → w'.cell? ⟨g, o + 3, none⟩ = some (.slice (some ⟨g1, o1, none⟩) n d1) ∧ w'.cell? ⟨g', o' + 3, none⟩ = some (.slice (some ⟨g2, o2, none⟩) n d2) ∧ w'.rangeAt g1 (o1 + k * 10) _ ∧ w'.rangeAt g2 (o2 + k * 10) _) := Lib.hid (fun w' kk => ⟨(HP.out _ (hk.trans kk (fun _ h => h.elim))).1, (HP.out _ (hk.trans kk (fun _ h => h.elim))).2, rangeAt_keep hr1 kk hg1 (fun h => h), rangeAt_keep hr2 kk hg2 (fun h => h)⟩)
  refine wp_seq (reC_asg (n := n) (fun c a d v w h => hQ c a d v w h) ha hi hkn hkn HPP (fun a1 w1 h1 h2 ha1 hi1 ex1 ey1 t1 t2 k1 => ?_))
  refine wp_seq (reC_cmp (hfl := hfl.keep k1 (fun _ _ _ h => h)) (hrl := hrl.keep k1 (fun _ _ _ h => h)) ha1 hi1 ex1 ey1 t1 t2 (fun a2 w2 b ha2 hi2 hb2 hiff k2 => ?_))
  exact h a2 w2 b ha2 hi2 hb2 hiff ((hk.trans k1 (fun _ h => h.elim)).trans k2 (fun _ h => h.elim))

end Go.Proofs.Ytpefkellcigpkaa.Cd
