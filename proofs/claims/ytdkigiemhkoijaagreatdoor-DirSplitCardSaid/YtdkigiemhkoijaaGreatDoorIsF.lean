/- Is of two errors of api that are one: true. -/
import Derived.Test.YtdkigiemhkoijaaGreatDoorErr
namespace Go.Proofs.YtdkigiemhkoijaaGreatDoor.Ino
open Go.RowKit Go.Maps Go.Proofs.YtdkigiemhkoijaaGreatDoor
set_option maxRecDepth 100000

theorem isF_same (a : Int) (h : (a == 0) = false) {w : World} : Calls Tryz.prog 8 #[apiErr a, .int .i64 a] w fun e w' => e = .returned (.bool true) ∧ w = w' := by
  simp only [apiErr]
  go_enter Tryz.func8, Tryz.ntmps8
  go_wp2_with (go_at_call 17; refine (errIs_same a _).mono ?_; rintro e w' ⟨rfl, rfl⟩)
  go_ret
  exact ⟨rfl, rfl⟩

end Go.Proofs.YtdkigiemhkoijaaGreatDoor.Ino
