/- Is of two errors of api that are one: true. -/
import Derived.Test.YtejeadccpigepaaErr
namespace Go.Proofs.Ytejeadccpigepaa.Ino
open Go.RowKit Go.Maps Go.Proofs.Ytejeadccpigepaa
set_option maxRecDepth 100000

theorem isF_same (a : Int) (h : (a == 0) = false) {w : World} : Calls Try.prog 9 #[apiErr a, .int .i64 a] w fun e w' => e = .returned (.bool true) ∧ w = w' := by
  simp only [apiErr]
  go_enter Try.func9, Try.ntmps9
  go_wp2_with (go_at_call 20; refine (errIs_same a _).mono ?_; rintro e w' ⟨rfl, rfl⟩)
  go_ret
  exact ⟨rfl, rfl⟩

end Go.Proofs.Ytejeadccpigepaa.Ino
