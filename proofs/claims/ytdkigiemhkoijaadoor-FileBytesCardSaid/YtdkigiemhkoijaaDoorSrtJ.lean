/- Sorting in place: patterns broken. -/
import Derived.Test.YtdkigiemhkoijaaDoorSrtI
import Derived.Laws.BitsAllLaws
namespace Go.Proofs.YtdkigiemhkoijaaDoor.Ino
open Go.RowKit Go.Maps Go.Proofs.YtdkigiemhkoijaaDoor
set_option maxRecDepth 100000

theorem and_mask (y : Int) (m : Nat) (hm : m ≤ 8) : ∃ r : Nat, bits .and .u64 y (((2 ^ m - 1 : Nat)) : Int) = (r : Int) ∧ r < 2 ^ m := by
  have h2 : 0 < 2 ^ m := Nat.two_pow_pos m
  have h8 : 2 ^ m ≤ 2 ^ 8 := Nat.pow_le_pow_right (by omega) hm
  have hM : (BitVec.ofInt 64 ((2 ^ m - 1 : Nat) : Int)).toNat = 2 ^ m - 1 := by
    rw [BitVec.ofInt_natCast, BitVec.toNat_ofNat]; exact Nat.mod_eq_of_lt (by omega)
  have hle : (BitVec.ofInt 64 y).toNat &&& (2 ^ m - 1) ≤ 2 ^ m - 1 := Nat.and_le_right
  refine ⟨(BitVec.ofInt 64 y).toNat &&& (2 ^ m - 1), ?_, by omega⟩
  show IntKind.u64.wrap ((BitVec.ofInt 64 y &&& BitVec.ofInt 64 ((2 ^ m - 1 : Nat) : Int)).toNat : Int) = _
  rw [BitVec.toNat_and, hM, IntKind.wrap_u64]
  omega

structure BrkR (w : World) (g q : Nat) (t : TypeId) (m : Nat) (iv : Value) (wr : World) : Prop where
  ex : (∃ k : Nat, k ≤ m ∧ iv = .int .i64 (k : Int)) ∧ SR w g t wr ∧ ∃ (y : Int) (tq : TypeId), wr.heap[q]? = some (.cells #[.int .u64 y] tq (0, 0))

theorem SR.swapq {w wr : World} {g : Nat} {t : TypeId} {L : List Nat} (hL : Srt w g t L wr) {i j q : Nat} (hi : i < 203) (hj : j < 203) (hqg : q ≠ g) {ob : Obj} (hq : wr.heap[q]? = some ob) : SR w g t ((wr.setCell ⟨g, i, none⟩ (.int .u32 ((tg L j : Nat) : Int))).setCell ⟨g, j, none⟩ (.int .u32 ((tg L i : Nat) : Int))).drew ∧ ((wr.setCell ⟨g, i, none⟩ (.int .u32 ((tg L j : Nat) : Int))).setCell ⟨g, j, none⟩ (.int .u32 ((tg L i : Nat) : Int))).drew.heap[q]? = some ob := by
  refine ⟨⟨_, (hL.swap hi hj).drew⟩, ?_⟩
  have k : Keep (fun x => x = g) wr ((wr.setCell ⟨g, i, none⟩ (.int .u32 ((tg L j : Nat) : Int))).setCell ⟨g, j, none⟩ (.int .u32 ((tg L i : Nat) : Int))).drew := (((Keep.refl (fun x => x = g) wr).setCell ⟨g, i, none⟩ _ (.inl rfl)).setCell ⟨g, j, none⟩ _ (.inl rfl)).drew
  exact (k.block q (lt_of_block hq) hqg).trans hq

set_option maxHeartbeats 2000000 in
theorem break_any {w : World} {g : Nat} {t : TypeId} (h : SR w g t w) (a b : Nat) (hab : a + 12 < b) (hb : b ≤ 203) :
    Calls Tryd.prog 55 #[tabS g, .int .i64 (a : Int), .int .i64 (b : Int)] w fun e w' => e = .returned (.tuple #[]) ∧ SR w g t w' := by
  have H := Lib.hid h
  have hgw : g < w.heap.size := by obtain ⟨L, hL⟩ := h; exact lt_of_block hL.heap
  clear h
  obtain ⟨l, hl⟩ : ∃ l, l = b - a := ⟨_, rfl⟩
  have e1 : (b : Int) - (a : Int) = (l : Int) := by omega
  have hll : 12 < l := by omega
  have hl203 : l ≤ 203 := by omega
  have d1 : decide (8 ≤ (l : Int)) = true := by rw [decide_eq_true_eq]; omega
  have HLL := Lib.hid hl
  clear hl
  obtain ⟨f4, hf4⟩ : ∃ f4, f4 = l / 4 := ⟨_, rfl⟩
  have e2 : (l : Int) / 4 = (f4 : Int) := by omega
  obtain ⟨u, hu⟩ : ∃ u, u = a + f4 * 2 := ⟨_, rfl⟩
  have e3 : (a : Int) + (f4 : Int) * 2 = (u : Int) := by omega
  obtain ⟨u0, hu0⟩ : ∃ u0, u0 = u - 1 := ⟨_, rfl⟩
  have e4 : (u : Int) - 1 = (u0 : Int) := by omega
  obtain ⟨u1, hu1⟩ : ∃ u1, u1 = u + 1 := ⟨_, rfl⟩
  have e5 : (u : Int) + 1 = (u1 : Int) := by omega
  have hub : u0 ≤ u1 ∧ u1 < 203 := by omega
  have hf203 : f4 ≤ 203 := by omega
  clear hf4 hu hu0 hu1
  have S0 : Hid (SR w g t (w.alloc (.cells #[.int .u64 (l : Int)] 129))) := Lib.hid (by
    obtain ⟨L, hL⟩ := H.out
    have k : Keep (fun x => x = g) w (w.alloc (.cells #[.int .u64 (l : Int)] 129)) := (Keep.refl _ w).alloc _
    exact ⟨L, hL.len, hL.inj, heap_past hL.heap, k⟩)
  have Q0 : Hid ((w.alloc (.cells #[.int .u64 (l : Int)] 129)).heap[w.heap.size]? = some (.cells #[.int .u64 (l : Int)] 129 (0, 0))) := Lib.hid (heap_alloc_new w _)
  have hqg : w.heap.size ≠ g := by omega
  go_enter Tryd.func55, Tryd.ntmps55
  go_wp2_with (go_at_call 66; refine (npow_any l (by omega) (by omega)).mono ?_; rintro e w2 ⟨⟨m, rfl, hm1, hm2, hm3⟩, k2⟩; have K2 := Lib.hid k2; clear k2)
  obtain ⟨M, hM⟩ : ∃ M, M = 2 ^ m - 1 := ⟨_, rfl⟩
  have h2m : 0 < 2 ^ m := Nat.two_pow_pos m
  have e6 : (2 : Int) ^ m - 1 = (M : Int) := by
    rw [hM]
    have : ((2 ^ m : Nat) : Int) = (2 : Int) ^ m := by simp
    omega
  have hM256 : M < 256 := by
    have : 2 ^ m ≤ 2 ^ 8 := Nat.pow_le_pow_right (by omega) hm3
    omega
  have HAM : Hid (∀ y : Int, ∃ r : Nat, bits .and .u64 y (M : Int) = (r : Int) ∧ r < 2 * l) := Lib.hid (fun y => by
    obtain ⟨r, h1, h2⟩ := and_mask y m hm3
    rw [hM]; exact ⟨r, h1, by omega⟩)
  have S2 : Hid (SR w g t w2) := Lib.hid (by
    obtain ⟨L, hL⟩ := S0.out
    exact ⟨L, hL.len, hL.inj, (K2.out.block g (lt_of_block hL.heap) (fun h => h)).trans hL.heap, hL.keep.trans K2.out (fun _ h => h.elim)⟩)
  have Q2 : Hid (w2.heap[w.heap.size]? = some (.cells #[.int .u64 (l : Int)] 129 (0, 0))) := Lib.hid ((K2.out.block _ (lt_of_block Q0.out) (fun h => h)).trans Q0.out)
  clear hM hm1 hm2 hm3 S0 Q0 K2 h2m
  go_loopw [9] (fun iv wr => BrkR w g w.heap.size t (u1 + 1) iv wr) (fun iv _ => 300 - (intOf iv).toNat)
  case atStart => exact ⟨⟨u0, by omega, rfl⟩, S2.out, _, _, Q2.out⟩
  case round =>
    obtain ⟨⟨k, hk, rfl⟩, hS, y0, tq, hq⟩ := hrel.ex
    have HS := Lib.hid hS; have HQ := Lib.hid hq
    clear hS hq hrel S2 Q2
    by_cases hle : k ≤ u1
    · have hd : decide (k ≤ u1) = true := by rw [decide_eq_true_eq]; exact hle
      have hn : ¬ (u1 < k) := by omega
      go_wp2_with fail
      refine (next_any HQ.out).mono ?_
      rintro e w5 ⟨⟨y, rfl, hq5⟩, k5⟩
      obtain ⟨r, hr, hr2⟩ := HAM.out y
      have S5 : SR w g t w5 := SR.past HS.out k5 (Nat.le_refl _) hqg
      obtain ⟨L, hL⟩ := S5
      have HQ5 := Lib.hid hq5
      clear k5 hq5
      have hkl : k < 203 := by omega
      by_cases hrl : l ≤ r
      · obtain ⟨z, hz⟩ : ∃ z, z = r - l := ⟨_, rfl⟩
        have e7 : (r : Int) - (l : Int) = (z : Int) := by omega
        obtain ⟨x, hx⟩ : ∃ x, x = a + z := ⟨_, rfl⟩
        have e8 : (a : Int) + (z : Int) = (x : Int) := by omega
        have hxl : x < 203 := by have := HLL.out; omega
        have hzl : z < 203 := by omega
        have c1 := hL.cell hkl
        have c2 := hL.cell hxl
        have f1 := hL.free k
        have f2 := hL.free x
        have c3 := hL.cell2 hkl hxl
        have HSW := Lib.hid (SR.swapq hL (i := k) (j := x) hkl hxl hqg HQ5.out)
        have hd2 : decide (l ≤ r) = true := by rw [decide_eq_true_eq]; exact hrl
        clear hL hz hx
        go_wp2
        go_region
        all_goals go_wp2
        all_goals
          go_roundw
          case rel => exact ⟨⟨k + 1, by omega, by go_num⟩, HSW.out.1, _, _, HSW.out.2⟩
          case measure => first | (simp [intOf]; done) | (simp [intOf]; omega)
      · obtain ⟨x, hx⟩ : ∃ x, x = a + r := ⟨_, rfl⟩
        have e8 : (a : Int) + (r : Int) = (x : Int) := by omega
        have hxl : x < 203 := by have := HLL.out; omega
        have hrl2 : r < 203 := by omega
        have c1 := hL.cell hkl
        have c2 := hL.cell hxl
        have f1 := hL.free k
        have f2 := hL.free x
        have c3 := hL.cell2 hkl hxl
        have HSW := Lib.hid (SR.swapq hL (i := k) (j := x) hkl hxl hqg HQ5.out)
        have hd2 : decide (l ≤ r) = false := by rw [decide_eq_false_iff_not]; exact hrl
        clear hL hx
        go_wp2
        go_region
        all_goals go_wp2
        all_goals
          go_roundw
          case rel => exact ⟨⟨k + 1, by omega, by go_num⟩, HSW.out.1, _, _, HSW.out.2⟩
          case measure => first | (simp [intOf]; done) | (simp [intOf]; omega)
    · have hd : decide (k ≤ u1) = false := by rw [decide_eq_false_iff_not]; exact hle
      go_wp2
      go_end0
      exact ⟨rfl, HS.out⟩

end Go.Proofs.YtdkigiemhkoijaaDoor.Ino
