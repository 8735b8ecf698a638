/- World files: the program's sortBy at each kind of row (made by tools/gendcb.py). -/
import Derived.Test.YtheaghgockafmaaGreatDcA
import Derived.Test.YtheaghgockafmaaGreatDbO
import Derived.Test.YtheaghgockafmaaGreatDbK
import Derived.Test.YtheaghgockafmaaGreatDbW
namespace Go.Proofs.YtheaghgockafmaaGreat.Wd
open Go.RowKit Go.Maps Go.Proofs.YtheaghgockafmaaGreat Go.Proofs.YtheaghgockafmaaGreat.Lin Go.Sort
set_option maxRecDepth 100000
/-- A slice's parts, and back. -/
def partS : Value → SlV
  | .slice a n c => ⟨a, n, c⟩
  | _ => ⟨none, 0, 0⟩
def backS {α : Type} (y : α × SlV) : α × Value := (y.1, .slice y.2.a y.2.n y.2.c)
theorem map_back {α : Type} : ∀ (L : List (α × Value)), (∀ x ∈ L, ∃ a n c, x.2 = .slice a n c) → (L.map fun x => (x.1, partS x.2)).map backS = L
  | [], _ => rfl
  | (x, u) :: L, h => by
    obtain ⟨a, n, c, e⟩ := h (x, u) (by simp)
    simp only at e
    subst e
    rw [List.map_cons, List.map_cons, map_back L (fun y hy => h y (by simp [hy]))]
    rfl
theorem flat_back {α : Type} {f : α × Value → List Value} {g : α × SlV → List Value} (hfg : ∀ y, f (backS y) = g y) (L : List (α × SlV)) : flat f (L.map backS) = flat g L := by
  unfold flat
  rw [List.flatMap_map]
  congr 1
  funext y
  exact hfg y

end Go.Proofs.YtheaghgockafmaaGreat.Wd
