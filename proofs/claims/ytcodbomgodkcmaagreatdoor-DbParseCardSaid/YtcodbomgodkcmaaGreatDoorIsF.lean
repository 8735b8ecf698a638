/- Is of two errors of api that are one: true. -/
import Derived.Test.YtcodbomgodkcmaaGreatDoorErr
namespace Go.Proofs.YtcodbomgodkcmaaGreatDoor.Ino
open Go.RowKit Go.Maps Go.Proofs.YtcodbomgodkcmaaGreatDoor
set_option maxRecDepth 100000

theorem isF_same (a : Int) (h : (a == 0) = false) {w : World} : Calls Tryz.prog 11 #[apiErr a, .int .i64 a] w fun e w' => e = .returned (.bool true) ∧ w = w' := by
  simp only [apiErr]
  go_enter Tryz.func11, Tryz.ntmps11
  go_wp2_with (go_at_call 28; refine (errIs_same a _).mono ?_; rintro e w' ⟨rfl, rfl⟩)
  go_ret
  exact ⟨rfl, rfl⟩

end Go.Proofs.YtcodbomgodkcmaaGreatDoor.Ino
