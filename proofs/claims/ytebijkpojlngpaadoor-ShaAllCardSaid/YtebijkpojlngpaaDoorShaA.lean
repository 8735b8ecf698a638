/- Turning words: what math/bits.RotateLeft32, sha.turned and the reference's rot do. -/
import Derived.Test.YtebijkpojlngpaaDoorShaM
import Derived.Laws.ShiftsVarLaws
namespace Go.Proofs.YtebijkpojlngpaaDoor.Sha
open Go.RowKit Go.Proofs.YtebijkpojlngpaaDoor
set_option maxRecDepth 100000

theorem rot_any {w : World} (x : UInt32) (z : Int) (n : Nat) (hz : z = (n : Int)) (h0 : 0 < n) (h : n < 32) :
    Calls Tryd.prog 23 #[.int .u32 (n32 x), .int .u64 z] w fun e w' => e = .returned (.int .u32 (n32 (rr x n))) ∧ w = w' := by
  subst hz
  have e1 := n32_rr' x n h0 h
  have e2 : ((32 : Int) - (n : Int)).toNat = 32 - n := by omega
  go_enter Tryd.func23, Tryd.ntmps23
  go_wp2
  go_ret
  exact ⟨rfl, rfl⟩

theorem turn31 (n : Nat) (h0 : 0 < n) (h : n < 32) : bits .and .u64 (IntKind.u64.wrap (-(n : Int))) 31 = ((32 - n : Nat) : Int) := by
  have e : IntKind.u64.wrap (-(n : Int)) = ((18446744073709551616 - n : Nat) : Int) := by
    simp [IntKind.wrap, IntKind.bits, IntKind.signed]; omega
  rw [e, show (31 : Int) = ((31 : Nat) : Int) from rfl, u64_and_nat _ _ (by omega) (by omega), Nat.and_two_pow_sub_one_eq_mod _ 5]
  omega

theorem rotl_any {w : World} (x : UInt32) (z : Int) (n : Nat) (hz : z = -(n : Int)) (h0 : 0 < n) (h : n < 32) :
    Calls Tryd.prog 24 #[.int .u32 (n32 x), .int .i64 z] w fun e w' => e = .returned (.int .u32 (n32 (rr x n))) ∧ w = w' := by
  subst hz
  have e1 := n32_rr x n h0 h
  have e2 := turn31 n h0 h
  have e3 : ((32 : Int) - ((32 - n : Nat) : Int)) = (n : Int) := by omega
  go_enter Tryd.func24, Tryd.ntmps24
  go_wp2
  go_ret
  exact ⟨rfl, rfl⟩

theorem turned_any {w : World} (x : UInt32) (i j k : Nat) (hi0 : 0 < i) (hi : i < 32) (hj0 : 0 < j) (hj : j < 32) (hk0 : 0 < k) (hk : k < 32) :
    Calls Tryd.prog 21 #[.int .u32 (n32 x), .int .i64 (i : Int), .int .i64 (j : Int), .int .i64 (k : Int)] w fun e w' => e = .returned (.int .u32 (n32 (t3 x i j k))) ∧ w = w' := by
  have e1 := n32_xor (rr x i) (rr x j)
  have e2 := n32_xor (rr x i ^^^ rr x j) (rr x k)
  go_enter Tryd.func21, Tryd.ntmps21
  go_wp2_with fail
  refine (rotl_any x _ i rfl hi0 hi).mono ?_
  rintro e w' ⟨rfl, rfl⟩
  go_wp2_with fail
  refine (rotl_any x _ j rfl hj0 hj).mono ?_
  rintro e w' ⟨rfl, rfl⟩
  go_wp2_with fail
  refine (rotl_any x _ k rfl hk0 hk).mono ?_
  rintro e w' ⟨rfl, rfl⟩
  go_wp2
  go_ret
  exact ⟨rfl, rfl⟩

end Go.Proofs.YtebijkpojlngpaaDoor.Sha
