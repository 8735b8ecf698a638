/- WalWhole: what lies out of bounds. -/
import Derived.Test.YtlhghhidmcadjaaDoorWhole
namespace Go.Proofs.YtlhghhidmcadjaaDoor
open Go.RowKit
set_option maxRecDepth 100000

theorem ww_out {w : World} (hT : Tab w) (n k : Int) (vp : Value) (h : n < 1 ∨ 40 < n ∨ k < 0 ∨ 120 < k) : Calls Tryd.prog 6 #[.int .i64 n, .int .i64 k, vp] w fun e w' => e = .returned (.bool true) ∧ Keep (fun _ => False) w w' := by
  have HT := Lib.hid hT
  clear hT
  rcases (by omega : n < 1 ∨ (¬ n < 1 ∧ 40 < n) ∨ (¬ n < 1 ∧ ¬ 40 < n ∧ k < 0) ∨ (¬ n < 1 ∧ ¬ 40 < n ∧ ¬ k < 0 ∧ 120 < k)) with t1 | ⟨t1, t2⟩ | ⟨t1, t2, t3⟩ | ⟨t1, t2, t3, t4⟩
  all_goals
    clear h
    go_enter Tryd.func6, Tryd.ntmps6
    go_wp2_with (go_at_call 8; refine (begun3_any HT.out).mono ?_; rintro e w1 ⟨rfl, k1⟩; have K1 := Lib.hid k1; clear k1)
    go_ret
    exact ⟨rfl, K1.out⟩

end Go.Proofs.YtlhghhidmcadjaaDoor
