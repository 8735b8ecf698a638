/- World files: the program's reader of words. -/
import Derived.Test.YtheaghgockafmaaGreatDbN
import Derived.Test.YtheaghgockafmaaGreatLinN
import Derived.Lib.BufferWrite
import Derived.Lib.UnsafeStr
import Derived.Laws.MakeOwn
namespace Go.Proofs.YtheaghgockafmaaGreat.Wd
open Go.RowKit Go.Maps Go.Proofs.YtheaghgockafmaaGreat Go.Proofs.YtheaghgockafmaaGreat.Lin
set_option maxRecDepth 100000
/-- No word of them is too long. -/
def ShortW (r : List ByteArray) : Prop := ∀ s ∈ r, s.size ≤ 1000000
theorem ShortW.drop {r : List ByteArray} (h : ShortW r) (k : Nat) : ShortW (r.drop k) := fun s hs => h s (List.mem_of_mem_drop hs)
theorem ShortW.at {r : List ByteArray} (h : ShortW r) (k : Nat) : (atW r k).size ≤ 1000000 := by
  by_cases hk : k < r.length
  · exact h _ (List.mem_of_getElem? (atW_get hk))
  · rw [atW_none (by omega)]; exact Nat.zero_le _
end Go.Proofs.YtheaghgockafmaaGreat.Wd
