/- Texts: the program's Print and Number. -/
import Derived.Test.YtheaghgockafmaaGreatLinG
import Derived.Lib.SmallJoins
namespace Go.Proofs.YtheaghgockafmaaGreat.Lin
open Go.RowKit Go.Maps Go.Proofs.YtheaghgockafmaaGreat
set_option maxRecDepth 100000

theorem cell_lt {w : World} {b o : Nat} {v : Value} (h : w.cell? ⟨b, o, none⟩ = some v) : b < w.heap.size := by
  unfold World.cell? at h
  by_cases hb : b < w.heap.size
  · exact hb
  · rw [Array.getElem?_eq_none (by simpa using hb)] at h; cases h

end Go.Proofs.YtheaghgockafmaaGreat.Lin
