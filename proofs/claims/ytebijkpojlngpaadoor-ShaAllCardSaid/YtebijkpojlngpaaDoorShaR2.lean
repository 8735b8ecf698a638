/- The reference's roots: what root does. -/
import Derived.Test.YtebijkpojlngpaaDoorShaR
namespace Go.Proofs.YtebijkpojlngpaaDoor.Sha
open Go.RowKit Go.Proofs.YtebijkpojlngpaaDoor
set_option maxRecDepth 100000

theorem rootN_step (p : UInt64) (cube : Bool) (k : Nat) (x : UInt64) (h : x = rootN p cube k) (b : Bool) (y : UInt64) (hy : y = x ||| UInt64.ofNat (2 ^ (35 - k))) (hb : b = fitsB y p cube) : rootN p cube (k + 1) = if b = true then y else x := by
  rw [rootN, ← h, ← hy, ← hb]

/-- The root's bits, so far. -/
def RootIs (p : UInt64) (cube : Bool) (k : Nat) (x : UInt64) : Prop := x = rootN p cube k

structure RootR (p : UInt64) (cube : Bool) (v b : Value) : Prop where
  ex : ∃ (k : Nat) (z : Int) (x : UInt64), k ≤ 36 ∧ z = 35 - (k : Int) ∧ b = .int .i64 z ∧ v = .int .u64 (n64 x) ∧ Hid (RootIs p cube k x)

theorem RootR.step {p : UInt64} {cube : Bool} {k : Nat} {y : UInt64} {z : Int} (hk : k < 36) (hz : z = 35 - (k : Int)) (h : RootIs p cube (k + 1) y) : RootR p cube (.int .u64 (n64 y)) (.int .i64 (z - 1)) :=
  ⟨k + 1, z - 1, y, by omega, by omega, rfl, rfl, Lib.hid h⟩

theorem RootIs.up {p : UInt64} {cube : Bool} {k q : Nat} {x y : UInt64} (h : RootIs p cube k x) (hq : q = 35 - k) (hy : y = x ||| UInt64.ofNat (2 ^ q)) (hb : fitsB y p cube = true) : RootIs p cube (k + 1) y := by
  subst hq
  exact (rootN_step p cube k x h true y hy hb.symm).symm
theorem RootIs.same {p : UInt64} {cube : Bool} {k q : Nat} {x y : UInt64} (h : RootIs p cube k x) (hq : q = 35 - k) (hy : y = x ||| UInt64.ofNat (2 ^ q)) (hb : fitsB y p cube = false) : RootIs p cube (k + 1) x := by
  subst hq
  exact (rootN_step p cube k x h false y hy hb.symm).symm
theorem root_out {p : UInt64} {cube : Bool} {x : UInt64} {R : UInt32} (h : RootIs p cube 36 x) (hR : R = rootB p cube) : n64 x % 4294967296 = n32 R := by
  unfold RootIs at h
  rw [hR, rootB, ← h]; unfold n64 n32
  rw [UInt64.toNat_toUInt32]
  omega

theorem one_bit (n : Nat) (h : n < 64) : (2 : Int) ^ n % (18446744073709551616 : Int) = n64 (UInt64.ofNat (2 ^ n)) := by
  have := Nat.pow_lt_pow_right (a := 2) (by omega) h
  unfold n64
  rw [UInt64.toNat_ofNat']
  rw [Nat.mod_eq_of_lt this, show ((2 : Int) ^ n) = ((2 ^ n : Nat) : Int) by simp]
  generalize 2 ^ n = q at *
  omega
theorem one_bit' (n : Nat) (h : n < 64) : ∃ t, IntKind.u64.wrap ((2 : Int) ^ n) = n64 t ∧ Hid (t = UInt64.ofNat (2 ^ n)) :=
  ⟨_, by rw [IntKind.wrap_u64]; exact one_bit n h, Lib.hid rfl⟩
theorem b_or' (x t : UInt64) : ∃ y, bits .or .u64 (n64 x) (n64 t) = n64 y ∧ Hid (y = x ||| t) := ⟨_, n64_or _ _, Lib.hid rfl⟩

set_option maxHeartbeats 400000 in
theorem root_any {w : World} (p : UInt64) (cube : Bool) :
    Calls Tryd.prog 18 #[.int .u64 (n64 p), .bool cube] w fun e w' => e = .returned (.int .u32 (n32 (rootB p cube))) ∧ w = w' := by
  obtain ⟨R, hR⟩ : ∃ R, R = rootB p cube := ⟨_, rfl⟩
  rw [← hR]
  have HR := Lib.hid hR
  clear hR
  go_enter Tryd.func18, Tryd.ntmps18
  go_wp2
  go_loop [5, 6] (fun x b => RootR p cube x b) (fun _ b => (intOf b + 1).toNat)
  case atStart => exact ⟨0, 35, 0, by omega, by omega, rfl, rfl, Lib.hid rfl⟩
  case round =>
    obtain ⟨k, z, x, hk, hz, rfl, rfl, HX⟩ := hrel.ex
    clear hrel
    by_cases hlt : k < 36
    · obtain ⟨q, rfl⟩ : ∃ q : Nat, z = (q : Int) := ⟨35 - k, by omega⟩
      have hq : q = 35 - k := by omega
      obtain ⟨t, e1, HT⟩ := one_bit' q (by omega)
      obtain ⟨y, e2, HY⟩ := b_or' x t
      have HYY : Hid (y = x ||| UInt64.ofNat (2 ^ q)) := Lib.hid (by rw [HY.out, HT.out])
      have HZ := Lib.hid hz
      have hb1 : (0 : Int) ≤ (q : Int) := by omega
      have hb2 : (q : Int) ≤ 35 := by omega
      have HQ := Lib.hid hq
      clear hz hq
      obtain ⟨bb, hbb⟩ : ∃ bb, fitsB y p cube = bb := ⟨_, rfl⟩
      have hf := fun w => fits_any (w := w) y p cube
      rw [hbb] at hf
      have HF := Lib.hid hf
      clear hf
      cases bb with
      | true =>
        have HU := Lib.hid (HX.out.up HQ.out HYY.out hbb)
        clear hbb
        go_wp2_with (go_at_call 22; refine (HF.out _).mono ?_; rintro e w' ⟨rfl, rfl⟩)
        go_round
        case rel => exact RootR.step hlt HZ.out HU.out
        case measure => simp [intOf]
      | false =>
        have HU := Lib.hid (HX.out.same HQ.out HYY.out hbb)
        clear hbb
        go_wp2_with (go_at_call 22; refine (HF.out _).mono ?_; rintro e w' ⟨rfl, rfl⟩)
        go_round
        case rel => exact RootR.step hlt HZ.out HU.out
        case measure => simp [intOf]
    · obtain rfl : k = 36 := by omega
      obtain rfl : z = -1 := by omega
      have hRR := root_out HX.out HR.out
      go_wp2
      go_ret
      exact ⟨rfl, rfl⟩

end Go.Proofs.YtebijkpojlngpaaDoor.Sha
