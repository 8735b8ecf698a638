/- slices.Sort of a table's numbers: whatever their order then, those that differ go on to differ. -/
import Derived.Test.YtdkigiemhkoijaaDoorSrtK
namespace Go.Proofs.YtdkigiemhkoijaaDoor.Ino
open Go.RowKit Go.Maps Go.Proofs.YtdkigiemhkoijaaDoor
set_option maxRecDepth 100000

theorem sort_any {w : World} {g : Nat} {t : TypeId} (h : SR w g t w) :
    Calls Tryd.prog 39 #[tabS g] w fun e w' => e = .returned (.tuple #[]) ∧ SR w g t w' := by
  have HL := Lib.hid (blen_any (w := w) 203 (by omega))
  have H := Lib.hid h
  clear h
  go_enter Tryd.func39, Tryd.ntmps39
  go_wp2_with fail
  refine HL.out.mono ?_
  rintro e w1 ⟨⟨k, rfl, h1⟩, k1⟩
  have S1 : Hid (SR w g t w1) := Lib.hid (by
    obtain ⟨L, hL⟩ := H.out
    exact ⟨L, hL.len, hL.inj, (k1.block g (lt_of_block hL.heap) (fun h => h)).trans hL.heap, hL.keep.trans k1 (fun _ h => h.elim)⟩)
  have HK : Hid (k ≤ 8) := Lib.hid h1.2.2
  clear k1 h1
  go_wp2_with fail
  refine (pdq_any g t 203 S1.out.here 0 203 k (by omega) (by omega) (by omega) (by have := HK.out; omega)).mono ?_
  rintro e w2 ⟨rfl, s2⟩
  have S2 := Lib.hid (S1.out.then s2)
  clear s2
  go_wp2
  go_end0
  exact ⟨rfl, S2.out⟩

end Go.Proofs.YtdkigiemhkoijaaDoor.Ino
