/- The reference's numbers: what fits and root do. -/
import Derived.Test.YtebijkpojlngpaaDoorShaM
import Derived.Laws.ShiftsVarLaws
namespace Go.Proofs.YtebijkpojlngpaaDoor.Sha
open Go.RowKit Go.Proofs.YtebijkpojlngpaaDoor
set_option maxRecDepth 100000

/-- A long word as an integer, kept shut. -/
def n64 (x : UInt64) : Int := (x.toNat : Int)
theorem n64_lt (x : UInt64) : n64 x < 18446744073709551616 := by have := x.toNat_lt; unfold n64; omega
theorem n64_ge (x : UInt64) : 0 ≤ n64 x := by unfold n64; omega
theorem n64_and (x y : UInt64) : bits .and .u64 (n64 x) (n64 y) = n64 (x &&& y) := by
  unfold n64; rw [u64_and_nat _ _ x.toNat_lt y.toNat_lt, UInt64.toNat_and]
theorem n64_or (x y : UInt64) : bits .or .u64 (n64 x) (n64 y) = n64 (x ||| y) := by
  unfold n64; rw [u64_or_nat _ _ x.toNat_lt y.toNat_lt, UInt64.toNat_or]
theorem n64_add (x y : UInt64) : (n64 x + n64 y) % (18446744073709551616 : Int) = n64 (x + y) := by
  unfold n64; rw [UInt64.toNat_add]; omega
theorem n64_mul (x y : UInt64) : (n64 x * n64 y) % (18446744073709551616 : Int) = n64 (x * y) := by
  unfold n64; rw [UInt64.toNat_mul, ← Int.natCast_mul]; omega
theorem n64_two (x : UInt64) : (2 * n64 x) % (18446744073709551616 : Int) = n64 (2 * x) := n64_mul 2 x
theorem n64_lo (x : UInt64) : bits .and .u64 (n64 x) 262143 = n64 (lo18 x) := n64_and x 262143
theorem n64_low (x : UInt64) : bits .and .u64 (n64 x) 68719476735 = n64 (x &&& 68719476735) := n64_and x 68719476735
theorem n64_shr (x : UInt64) (n : Nat) (h : n < 64) : n64 x / 2 ^ n = n64 (x >>> UInt64.ofNat n) := by
  unfold n64
  rw [UInt64.toNat_shiftRight, UInt64.toNat_ofNat', Nat.mod_eq_of_lt (show n < 2 ^ 64 by omega), Nat.mod_eq_of_lt h, Nat.shiftRight_eq_div_pow]
  simp
theorem n64_shl (x : UInt64) (n : Nat) (h : n < 64) : n64 x * 2 ^ n % 18446744073709551616 = n64 (x <<< UInt64.ofNat n) := by
  unfold n64
  rw [UInt64.toNat_shiftLeft, UInt64.toNat_ofNat', Nat.mod_eq_of_lt (show n < 2 ^ 64 by omega), Nat.mod_eq_of_lt h, Nat.shiftLeft_eq]
  simp
theorem n64_up (x : UInt64) : n64 x / (262144 : Int) = n64 (up18 x) := n64_shr x 18 (by omega)
theorem n64_up36 (x : UInt64) : n64 x / (68719476736 : Int) = n64 (x >>> (36 : UInt64)) := n64_shr x 36 (by omega)
theorem n64_shl18 (x : UInt64) : n64 x * (262144 : Int) % (18446744073709551616 : Int) = n64 (x <<< (18 : UInt64)) := n64_shl x 18 (by omega)
theorem n64_shl28 (x : UInt64) : n64 x * (268435456 : Int) % (18446744073709551616 : Int) = n64 (x <<< (28 : UInt64)) := n64_shl x 28 (by omega)
theorem n64_shl24 (x : UInt64) : n64 x * (16777216 : Int) % (18446744073709551616 : Int) = n64 (x <<< (24 : UInt64)) := n64_shl x 24 (by omega)
theorem n64_ltB (x y : UInt64) : decide (n64 x < n64 y) = decide (x < y) := by
  rw [decide_eq_decide, UInt64.lt_iff_toNat_lt]; unfold n64; omega
theorem n64_eqB (x y : UInt64) : (n64 x == n64 y) = (x == y) := by
  rw [Bool.eq_iff_iff, beq_iff_eq, beq_iff_eq, ← UInt64.toNat_inj]; unfold n64; omega
theorem n64_eq0 (x : UInt64) : (n64 x == 0) = (x == 0) := n64_eqB x 0
theorem n64_ne0 (x : UInt64) : (n64 x != 0) = (x != 0) := by unfold bne; rw [n64_eq0]

theorem b_up (x : UInt64) : ∃ z, n64 x / (262144 : Int) = n64 z ∧ Hid (z = up18 x) := ⟨_, n64_up x, Lib.hid rfl⟩
theorem b_up36 (x : UInt64) : ∃ z, n64 x / (68719476736 : Int) = n64 z ∧ Hid (z = x >>> (36 : UInt64)) := ⟨_, n64_up36 x, Lib.hid rfl⟩
theorem b_lo (x : UInt64) : ∃ z, bits .and .u64 (n64 x) 262143 = n64 z ∧ Hid (z = lo18 x) := ⟨_, n64_lo x, Lib.hid rfl⟩
theorem b_low (x : UInt64) : ∃ z, bits .and .u64 (n64 x) 68719476735 = n64 z ∧ Hid (z = x &&& 68719476735) := ⟨_, n64_low x, Lib.hid rfl⟩
theorem b_two (x : UInt64) : ∃ z, IntKind.u64.wrap (2 * n64 x) = n64 z ∧ Hid (z = 2 * x) := ⟨_, by rw [IntKind.wrap_u64]; exact n64_two x, Lib.hid rfl⟩
theorem b_mul (x y : UInt64) : ∃ z, IntKind.u64.wrap (n64 x * n64 y) = n64 z ∧ Hid (z = x * y) := ⟨_, by rw [IntKind.wrap_u64]; exact n64_mul x y, Lib.hid rfl⟩
theorem b_add (x y : UInt64) : ∃ z, IntKind.u64.wrap (n64 x + n64 y) = n64 z ∧ Hid (z = x + y) := ⟨_, by rw [IntKind.wrap_u64]; exact n64_add x y, Lib.hid rfl⟩
theorem b_or (x y : UInt64) : ∃ z, bits .or .u64 (n64 x) (n64 y) = n64 z ∧ Hid (z = x ||| y) := ⟨_, n64_or x y, Lib.hid rfl⟩
theorem b_shl18 (x : UInt64) : ∃ z, IntKind.u64.wrap (n64 x * (262144 : Int)) = n64 z ∧ Hid (z = x <<< (18 : UInt64)) := ⟨_, by rw [IntKind.wrap_u64]; exact n64_shl18 x, Lib.hid rfl⟩
theorem b_shl28 (x : UInt64) : ∃ z, IntKind.u64.wrap (n64 x * (268435456 : Int)) = n64 z ∧ Hid (z = x <<< (28 : UInt64)) := ⟨_, by rw [IntKind.wrap_u64]; exact n64_shl28 x, Lib.hid rfl⟩
theorem b_shl24 (x : UInt64) : ∃ z, IntKind.u64.wrap (n64 x * (16777216 : Int)) = n64 z ∧ Hid (z = x <<< (24 : UInt64)) := ⟨_, by rw [IntKind.wrap_u64]; exact n64_shl24 x, Lib.hid rfl⟩

set_option maxHeartbeats 1000000 in
theorem fits_any {w : World} (y p : UInt64) (cube : Bool) :
    Calls Tryd.prog 22 #[.int .u64 (n64 y), .int .u64 (n64 p), .bool cube] w fun e w' => e = .returned (.bool (fitsB y p cube)) ∧ w = w' := by
  obtain ⟨A, qA, hA⟩ := b_up y
  obtain ⟨B, qB, hB⟩ := b_lo y
  obtain ⟨H0, qH0, hH0⟩ := b_mul A A
  obtain ⟨A2, qA2, hA2⟩ := b_two A
  obtain ⟨M, qM, hM⟩ := b_mul A2 B
  obtain ⟨L0, qL0, hL0⟩ := b_mul B B
  obtain ⟨ML, qML, hML⟩ := b_lo M
  obtain ⟨MS, qMS, hMS⟩ := b_shl18 ML
  obtain ⟨LO, qLO, hLO⟩ := b_add L0 MS
  obtain ⟨MU, qMU, hMU⟩ := b_up M
  obtain ⟨LU, qLU, hLU⟩ := b_up36 LO
  obtain ⟨SU, qSU, hSU⟩ := b_add MU LU
  obtain ⟨HI, qHI, hHI⟩ := b_add H0 SU
  obtain ⟨LW, qLW, hLW⟩ := b_low LO
  obtain ⟨Bo, hBo⟩ : ∃ Bo, Bo = fitsB y p cube := ⟨_, rfl⟩
  rw [← hBo]
  cases cube with
  | false =>
    obtain ⟨PP, qPP, hPP⟩ := b_shl28 p
    have hE : Bo = (decide (n64 HI < n64 PP) || (n64 HI == n64 PP && n64 LW == 0)) := by
      have zA := hA.out
      have zB := hB.out
      have zH0 := hH0.out
      have zA2 := hA2.out
      have zM := hM.out
      have zL0 := hL0.out
      have zML := hML.out
      have zMS := hMS.out
      have zLO := hLO.out
      have zMU := hMU.out
      have zLU := hLU.out
      have zSU := hSU.out
      have zHI := hHI.out
      have zLW := hLW.out
      have zPP := hPP.out
      subst zPP zLW zHI zSU zLU zMU zLO zMS zML zL0 zM zA2 zH0 zB zA
      rw [hBo, n64_ltB, n64_eqB, n64_eq0]
      unfold fitsB fitsLow fitsHi fitsLo fitsMid
      simp only [if_true]
    have HE := Lib.hid hE
    clear hE hBo
    by_cases t1 : n64 HI < n64 PP
    · have d1 : decide (n64 HI < n64 PP) = true := decide_eq_true t1
      rw [d1] at HE
      go_enter Tryd.func22, Tryd.ntmps22
      go_wp2
      go_ret
      exact ⟨by rw [HE.out]; rfl, rfl⟩
    · have d1 : decide (n64 HI < n64 PP) = false := decide_eq_false t1
      rw [d1] at HE
      by_cases t2 : n64 HI = n64 PP
      · have d2 : (n64 HI == n64 PP) = true := beq_iff_eq.2 t2
        rw [d2] at HE
        clear t1 t2
        go_enter Tryd.func22, Tryd.ntmps22
        go_wp2
        go_ret
        exact ⟨by rw [HE.out]; rfl, rfl⟩
      · have d2 : (n64 HI == n64 PP) = false := by simpa using t2
        rw [d2] at HE
        clear t1 t2
        go_enter Tryd.func22, Tryd.ntmps22
        go_wp2
        go_ret
        exact ⟨by rw [HE.out]; rfl, rfl⟩
  | true =>
    obtain ⟨PP, qPP, hPP⟩ := b_shl24 p
    obtain ⟨C, qC, hC⟩ := b_up HI
    obtain ⟨D, qD, hD⟩ := b_lo HI
    obtain ⟨E, qE, hE⟩ := b_up LW
    obtain ⟨F, qF, hF⟩ := b_lo LW
    obtain ⟨T0, qT0, hT0⟩ := b_mul F B
    obtain ⟨X1, qX1, hX1⟩ := b_mul E B
    obtain ⟨X2, qX2, hX2⟩ := b_mul F A
    obtain ⟨X3, qX3, hX3⟩ := b_add X1 X2
    obtain ⟨X4, qX4, hX4⟩ := b_up T0
    obtain ⟨T1, qT1, hT1⟩ := b_add X3 X4
    obtain ⟨Y1, qY1, hY1⟩ := b_mul D B
    obtain ⟨Y2, qY2, hY2⟩ := b_mul E A
    obtain ⟨Y3, qY3, hY3⟩ := b_add Y1 Y2
    obtain ⟨Y4, qY4, hY4⟩ := b_up T1
    obtain ⟨T2, qT2, hT2⟩ := b_add Y3 Y4
    obtain ⟨Z1, qZ1, hZ1⟩ := b_mul C B
    obtain ⟨Z2, qZ2, hZ2⟩ := b_mul D A
    obtain ⟨Z3, qZ3, hZ3⟩ := b_add Z1 Z2
    obtain ⟨Z4, qZ4, hZ4⟩ := b_up T2
    obtain ⟨T3, qT3, hT3⟩ := b_add Z3 Z4
    obtain ⟨V1, qV1, hV1⟩ := b_mul C A
    obtain ⟨V4, qV4, hV4⟩ := b_up T3
    obtain ⟨T4, qT4, hT4⟩ := b_add V1 V4
    obtain ⟨O1, qO1, hO1⟩ := b_or T3 T2
    obtain ⟨O2, qO2, hO2⟩ := b_or O1 T1
    obtain ⟨O3, qO3, hO3⟩ := b_or O2 T0
    obtain ⟨R, qR, hR⟩ := b_lo O3
    have hE : Bo = (decide (n64 T4 < n64 PP) || (n64 T4 == n64 PP && !(n64 R != 0))) := by
      have zA := hA.out
      have zB := hB.out
      have zH0 := hH0.out
      have zA2 := hA2.out
      have zM := hM.out
      have zL0 := hL0.out
      have zML := hML.out
      have zMS := hMS.out
      have zLO := hLO.out
      have zMU := hMU.out
      have zLU := hLU.out
      have zSU := hSU.out
      have zHI := hHI.out
      have zLW := hLW.out
      have zPP := hPP.out
      have zC := hC.out
      have zD := hD.out
      have zE := hE.out
      have zF := hF.out
      have zT0 := hT0.out
      have zX1 := hX1.out
      have zX2 := hX2.out
      have zX3 := hX3.out
      have zX4 := hX4.out
      have zT1 := hT1.out
      have zY1 := hY1.out
      have zY2 := hY2.out
      have zY3 := hY3.out
      have zY4 := hY4.out
      have zT2 := hT2.out
      have zZ1 := hZ1.out
      have zZ2 := hZ2.out
      have zZ3 := hZ3.out
      have zZ4 := hZ4.out
      have zT3 := hT3.out
      have zV1 := hV1.out
      have zV4 := hV4.out
      have zT4 := hT4.out
      have zO1 := hO1.out
      have zO2 := hO2.out
      have zO3 := hO3.out
      have zR := hR.out
      subst zR zO3 zO2 zO1 zT4 zV4 zV1 zT3 zZ4 zZ3 zZ2 zZ1 zT2 zY4 zY3 zY2 zY1 zT1 zX4 zX3 zX2 zX1 zT0 zF zE zD zC zPP zLW zHI zSU zLU zMU zLO zMS zML zL0 zM zA2 zH0 zB zA
      rw [hBo, n64_ltB, n64_eqB, n64_ne0]
      unfold fitsB restB c4 c3 c2 c1 c0 fitsLow fitsHi fitsLo fitsMid
      simp only [Bool.true_eq_false, if_false, bne]
    have HE := Lib.hid hE
    clear hE hBo
    by_cases t1 : n64 T4 < n64 PP
    · have d1 : decide (n64 T4 < n64 PP) = true := decide_eq_true t1
      rw [d1] at HE
      go_enter Tryd.func22, Tryd.ntmps22
      go_wp2
      go_ret
      exact ⟨by rw [HE.out]; rfl, rfl⟩
    · have d1 : decide (n64 T4 < n64 PP) = false := decide_eq_false t1
      rw [d1] at HE
      by_cases t2 : n64 T4 = n64 PP
      · have d2 : (n64 T4 == n64 PP) = true := beq_iff_eq.2 t2
        rw [d2] at HE
        clear t1 t2
        go_enter Tryd.func22, Tryd.ntmps22
        go_wp2
        go_ret
        exact ⟨by rw [HE.out]; rfl, rfl⟩
      · have d2 : (n64 T4 == n64 PP) = false := by simpa using t2
        rw [d2] at HE
        clear t1 t2
        go_enter Tryd.func22, Tryd.ntmps22
        go_wp2
        go_ret
        exact ⟨by rw [HE.out]; rfl, rfl⟩

end Go.Proofs.YtebijkpojlngpaaDoor.Sha
