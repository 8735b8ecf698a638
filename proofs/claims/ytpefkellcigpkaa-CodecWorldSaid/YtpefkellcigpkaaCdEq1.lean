/- codec: lists that are compared. -/
import Derived.Test.YtpefkellcigpkaaCdT
import Derived.Laws.StructEq
namespace Go.Proofs.Ytpefkellcigpkaa.Cd
open Go.RowKit Go.Proofs.Ytpefkellcigpkaa
set_option maxRecDepth 100000

/-- What a comparison answers. -/
structure EqA {M : Type} (x y : M) (w : World) (e : Ending) (w' : World) : Prop where
  ex : ∃ b : Bool, e = .returned (.bool b) ∧ (b = true ↔ x = y) ∧ Keep (fun _ => False) w w'

/-- While two lists are compared. -/
structure EqR {M : Type} (l1 l2 : List M) (w : World) (i : Value) (wr : World) : Prop where
  ex : ∃ k : Nat, k ≤ l1.length ∧ i = .int .i64 (k : Int) ∧ Keep (fun _ => False) w wr ∧ l1.take k = l2.take k

theorem EqR.step {M : Type} {l1 l2 : List M} {w wr : World} {k : Nat} {x : M} (h1 : l1[k]? = some x) (h2 : l2[k]? = some x) (ht : l1.take k = l2.take k) (hk : Keep (fun _ => False) w wr) {z : Int} (hz : z = (k : Int) + 1) : EqR l1 l2 w (.int .i64 z) wr := by
  obtain ⟨a1, a2⟩ := List.getElem?_eq_some_iff.1 h1
  obtain ⟨b1, b2⟩ := List.getElem?_eq_some_iff.1 h2
  exact ⟨k + 1, by omega, by rw [hz]; rfl, hk, by rw [List.take_succ_eq_append_getElem a1, List.take_succ_eq_append_getElem b1, ht, a2, b2]⟩

theorem ne_at {M : Type} {l1 l2 : List M} {k : Nat} {x y : M} (h1 : l1[k]? = some x) (h2 : l2[k]? = some y) (h : x ≠ y) : l1 ≠ l2 := by
  rintro rfl
  rw [h1] at h2
  exact h (Option.some.inj h2)

theorem str_ne {s t : ByteArray} (h : ¬ s = t) : (s.toList == t.toList) = false := by
  rw [beq_eq_false_iff_ne, ByteArray.toList_eq, ByteArray.toList_eq]
  intro e
  apply h
  obtain ⟨⟨x⟩⟩ := s
  obtain ⟨⟨y⟩⟩ := t
  simp only at e
  rw [e]

end Go.Proofs.Ytpefkellcigpkaa.Cd
/- codec: what EqWorld is to do. -/
namespace Go.Proofs.Ytpefkellcigpkaa.Cd
open Go.RowKit Go.Proofs.Ytpefkellcigpkaa
set_option maxRecDepth 100000

/-- What EqWorld does (shown in another text). -/
def EqWorldSpec : Prop := ∀ {w : World} {Pb Qb : Nat → Prop} {p q : Value} {x y : MWorld}, PAt eWorld Pb w p x → PAt eWorld Qb w q y → Calls Try.prog 11 #[p, q] w (EqA x y w)

end Go.Proofs.Ytpefkellcigpkaa.Cd
