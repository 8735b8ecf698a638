/- codec: houses whose guests may be written; a world that is one's own. -/
import Derived.Test.YtpefkellcigpkaaCdI
import Derived.Test.YtpefkellcigpkaaCdArgW
import Derived.Test.YtpefkellcigpkaaCdBeg
namespace Go.Proofs.Ytpefkellcigpkaa.Cd
open Go.RowKit Go.Deep Go.Proofs.Ytpefkellcigpkaa
set_option maxRecDepth 100000

/-- Texts in a row that may be written. -/
def GR (Pb : Nat → Prop) (w : World) (v : Value) (l : List ByteArray) : Prop := Row w 9 1 v l.length (l.map Value.string) ∧ ∀ b, own v b → Pb b
theorem GR.keep {Pb F : Nat → Prop} {w w' : World} {v : Value} {l : List ByteArray} (h : GR Pb w v l) (k : Keep F w w') (hF : ∀ g, Pb g → g < w.heap.size → ¬ F g) : GR Pb w' v l :=
  ⟨h.1.keep k (fun b e => hF b (h.2 b e) (h.1.lt e)), h.2⟩
theorem GR.mono {Pb Qb : Nat → Prop} {w : World} {v : Value} {l : List ByteArray} (h : GR Pb w v l) (hq : ∀ g, g < w.heap.size → Pb g → Qb g) : GR Qb w v l :=
  ⟨h.1, fun b e => hq b (h.1.lt e) (h.2 b e)⟩
theorem GR.slice {Pb : Nat → Prop} {w : World} {v : Value} {l : List ByteArray} (h : GR Pb w v l) : ∃ a cap, v = .slice a l.length cap ∧ l.length ≤ cap ∧ cap ≤ maxLen := h.1.slice
theorem GR.one {Pb : Nat → Prop} {w : World} {v : Value} {l : List ByteArray} (h : GR Pb w v l) : v.oneCell' = true := by
  obtain ⟨_, _, rfl, _⟩ := h.slice; rfl
theorem GR.at {Pb : Nat → Prop} {w : World} {v : Value} {l : List ByteArray} (h : GR Pb w v l) : LAt eS Pb w v l := by
  have hr := h.1
  rcases h.1.2 with ⟨rfl, hn⟩ | ⟨g, off, cap, cur, lo', hi', rfl, hg, c1, c2, _⟩
  · have : l = [] := List.eq_nil_of_length_eq_zero hn
    subst this
    exact LAt.nil
  · refine ⟨_, cap, rfl, c1, c2, .inr ⟨g, off, rfl, lt_of_block hg, h.2 g rfl, fun i x hx => ⟨[.string x], rfl, fun j u hu => ?_⟩⟩⟩
    have hi : i < l.length := (List.getElem?_eq_some_iff.1 hx).1
    match j, hu with
    | 0, hu =>
      simp only [List.getElem?_cons_zero, Option.some.injEq] at hu
      subst hu
      show w.cell? ⟨g, off + i * 1 + 0, none⟩ = _
      rw [Nat.mul_one, Nat.add_zero, hr.cellAt i (by omega), List.getElem?_map, hx]; rfl
theorem flat_strings : ∀ (css : List (List Value)) (l : List ByteArray), css.length = l.length → (∀ (i : Nat) (x : ByteArray), l[i]? = some x → ∃ cs, css[i]? = some cs ∧ cs = [Value.string x]) → css.flatten = l.map Value.string
  | [], [], _, _ => rfl
  | c :: css, x :: l, h, hc => by
    obtain ⟨cs, d1, d2⟩ := hc 0 x rfl
    simp only [List.getElem?_cons_zero, Option.some.injEq] at d1
    subst d1 d2
    rw [List.flatten_cons, flat_strings css l (by simpa using h) (fun i x hx => by have := hc (i + 1) x (by simpa using hx); simpa using this)]
    rfl
  | [], _ :: _, h, _ => by simp at h
  | _ :: _, [], h, _ => by simp at h
theorem Own.gr {B : Nat} {w : World} {v : Value} {l : List ByteArray} (h : Own eS 9 B w v l) : GR (fun b => B ≤ b) w v l := by
  obtain ⟨css, h1, h2, h3, h4⟩ := h.ex
  rw [flat_strings css l h2 h4] at h1
  exact ⟨h1, h.new⟩

def eHouseW : El (Int × ByteArray × List ByteArray × Int) where
  c := cHouse
  H Pb w x cs := ∃ gv, GR Pb w gv x.2.2.1 ∧ cs = [.int .i64 x.1, .string x.2.1, gv, .int .i64 x.2.2.2]
  size := 4
  keep k hF := fun ⟨gv, h1, h2⟩ => ⟨gv, h1.keep k hF, h2⟩
  mono hq := fun ⟨gv, h1, h2⟩ => ⟨gv, h1.mono hq, h2⟩
  len := fun ⟨gv, _, h2⟩ => by rw [h2]; rfl
  one := fun ⟨gv, h1, h2⟩ => by rw [h2]; simp [Value.oneCell']; exact h1.one

theorem LAt.houses {Pb : Nat → Prop} {w : World} {v : Value} {l : List (Int × ByteArray × List ByteArray × Int)} (h : LAt eHouseW Pb w v l) : LAt eHouse Pb w v l := by
  obtain ⟨a, cap, hv, h1, h2, h3⟩ := h
  refine ⟨a, cap, hv, h1, h2, ?_⟩
  rcases h3 with h3 | ⟨g, off, ha, hg, hb, hc⟩
  · exact .inl h3
  · refine .inr ⟨g, off, ha, hg, hb, fun i x hx => ?_⟩
    obtain ⟨cs, ⟨gv, d1, d2⟩, d3⟩ := hc i x hx
    exact ⟨cs, ⟨gv, d1.at, d2⟩, d3⟩

/-- A world in blocks of its own. -/
structure WAt (lo : Nat) (w : World) (g : Nat) (x : MWorld) : Prop where
  ex : ∃ (c1 c2 c3 c4 c5 c6 c7 : Nat) (v1 v2 v3 v4 v5 v6 : Value), w.heap[g]? = some (.cells #[.int .i64 x.1, .int .i64 x.2.1, .int .i64 x.2.2.1, v1, v2, v3, v4, v5, v6] 29 (0, 0)) ∧
    lo ≤ g ∧ g < c1 ∧ c1 ≤ c2 ∧ c2 ≤ c3 ∧ c3 ≤ c4 ∧ c4 ≤ c5 ∧ c5 ≤ c6 ∧ c6 ≤ c7 ∧
    Mine eChar 58 c1 c2 w v1 x.2.2.2.1 ∧ Mine eHouseW 65 c2 c3 w v4 x.2.2.2.2.2.2.1 ∧ Mine eThing 61 c3 c4 w v2 x.2.2.2.2.1 ∧
    Mine eMob 54 c4 c5 w v3 x.2.2.2.2.2.1 ∧ Mine eLot 67 c5 c6 w v5 x.2.2.2.2.2.2.2.1 ∧ Mine eTill 81 c6 c7 w v6 x.2.2.2.2.2.2.2.2

theorem WAt.pat {lo : Nat} {w : World} {g : Nat} {x : MWorld} (h : WAt lo w g x) : PAt eWorld (fun b => lo ≤ b) w (.pointer (some ⟨g, 0, none⟩)) x := by
  obtain ⟨c1, c2, c3, c4, c5, c6, c7, v1, v2, v3, v4, v5, v6, hg, b0, b1, b2, b3, b4, b5, b6, b7, m1, m2, m3, m4, m5, m6⟩ := h.ex
  refine ⟨g, 0, _, rfl, lt_of_block hg, b0, ⟨v1, v2, v3, v4, v5, v6, m1.at.mono ?_, m3.at.mono ?_, m4.at.mono ?_, m2.at.houses.mono ?_, m5.at.mono ?_, m6.at.mono ?_, rfl⟩, rangeAt_block2 hg rfl⟩ <;> exact fun b _ hb => by omega

end Go.Proofs.Ytpefkellcigpkaa.Cd
