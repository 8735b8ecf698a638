/- Sorting in place: patterns broken. -/
import Derived.Test.YtdkigiemhkoijaaDoorSrtE
import Derived.Ground.So_math_bits_Len64
namespace Go.Proofs.YtdkigiemhkoijaaDoor.Ino
open Go.RowKit Go.Maps Go.Proofs.YtdkigiemhkoijaaDoor
set_option maxRecDepth 100000

theorem len8_size : Lib.len8tab.size = 256 := by decide

theorem len8_all : ∀ n : Fin 256, n.1 < 2 ^ (Lib.len8tab.data.getD n.1 0).toNat ∧ (0 < n.1 → 2 ^ (Lib.len8tab.data.getD n.1 0).toNat ≤ 2 * n.1) ∧ (Lib.len8tab.data.getD n.1 0).toNat ≤ 8 := by decide +kernel

theorem len8_spec (n : Nat) (hn : n < 256) (h : n < Lib.len8tab.size) : n < 2 ^ (Lib.len8tab[n]'h).toNat ∧ (0 < n → 2 ^ (Lib.len8tab[n]'h).toNat ≤ 2 * n) ∧ (Lib.len8tab[n]'h).toNat ≤ 8 := by
  have := len8_all ⟨n, hn⟩
  have e : Lib.len8tab.data.getD n 0 = Lib.len8tab[n]'h := by
    simp only [Array.getD_eq_getD_getElem?]
    rw [Array.getElem?_eq_getElem (by simpa using h)]
    rfl
  simp only [e] at this
  exact this

theorem len64_any {w : World} (n : Nat) (hn : n < 256) : Calls Tryd.prog 63 #[.int .u64 (n : Int)] w fun e w' => (∃ k : Nat, e = .returned (.int .i64 (k : Int)) ∧ n < 2 ^ k ∧ (0 < n → 2 ^ k ≤ 2 * n) ∧ k ≤ 8) ∧ Keep (fun _ => False) w w' := by
  have d1 : decide ((4294967296 : Int) ≤ (n : Int)) = false := by rw [decide_eq_false_iff_not]; omega
  have d2 : decide ((65536 : Int) ≤ (n : Int)) = false := by rw [decide_eq_false_iff_not]; omega
  have d3 : decide ((256 : Int) ≤ (n : Int)) = false := by rw [decide_eq_false_iff_not]; omega
  go_enter Tryd.func63, Tryd.ntmps63
  go_wp2
  go_ret
  have h256 : n < Lib.len8tab.size := by rw [len8_size]; exact hn
  have hs := len8_spec n hn h256
  refine ⟨⟨(Lib.len8tab[n]'h256).toNat, ?_, hs⟩, Keep.refl _ w⟩
  refine congrArg (fun z => Ending.returned (Value.int .i64 z)) ?_
  have hb : wrap64 (((Lib.len8tab[n]'h256).toNat : Nat) : Int) = (((Lib.len8tab[n]'h256).toNat : Nat) : Int) := wrap_in (by omega) (by omega)
  change wrap64 (wrap64 (((Lib.len8tab[n]'h256).toNat : Nat) : Int)) = _
  rw [hb, hb]

theorem nx_step {w : World} {q : Nat} {x : Int} {t : TypeId} (h : w.heap[q]? = some (.cells #[.int .u64 x] t (0, 0))) (y : Int) : (w.setCell ⟨q, 0, none⟩ (.int .u64 y)).drew.heap[q]? = some (.cells #[.int .u64 y] t (0, 0)) ∧ Keep (fun x => x = q) w (w.setCell ⟨q, 0, none⟩ (.int .u64 y)).drew :=
  ⟨by
    have h2 := heap_setCell_at (i := 0) (.int .u64 y) h
    have h3 : (w.setCell ⟨q, 0, none⟩ (.int .u64 y)).heap[q]? = some (.cells #[.int .u64 y] t (0, 0)) := by simpa using h2
    exact h3, ((Keep.refl (fun x => x = q) w).setCell ⟨q, 0, none⟩ _ (.inl rfl)).drew⟩

theorem nx_cell {w : World} {q : Nat} {x : Int} {t : TypeId} (h : w.heap[q]? = some (.cells #[.int .u64 x] t (0, 0))) : w.cell? ⟨q, 0, none⟩ = some (.int .u64 x) ∧ w.frozen? ⟨q, 0, none⟩ = false :=
  ⟨(cell_of_row _ _ _ _ _ _ h).trans rfl, frozen_of_row _ _ 0 _ _ h⟩

theorem next_any {w : World} {q : Nat} {x : Int} {t : TypeId} (h : w.heap[q]? = some (.cells #[.int .u64 x] t (0, 0))) : Calls Tryd.prog 67 #[.pointer (some ⟨q, 0, none⟩)] w fun e w' => (∃ y : Int, e = .returned (.int .u64 y) ∧ w'.heap[q]? = some (.cells #[.int .u64 y] t (0, 0))) ∧ Keep (fun x => x = q) w w' := by
  obtain ⟨c1, f1⟩ := nx_cell h
  go_enter Tryd.func67, Tryd.ntmps67
  go_wp2
  go_region
  generalize bits BinOp.xor IntKind.u64 x (IntKind.u64.wrap (x * 8192)) = y1
  obtain ⟨h2, k2⟩ := nx_step h y1
  clear c1 f1
  generalize (w.setCell ⟨q, 0, none⟩ (.int .u64 y1)).drew = w2 at *
  obtain ⟨c1, f1⟩ := nx_cell h2
  go_wp2
  go_region
  generalize bits BinOp.xor IntKind.u64 y1 (y1 / 128) = y2
  obtain ⟨h3, k3⟩ := nx_step h2 y2
  clear c1 f1
  generalize (w2.setCell ⟨q, 0, none⟩ (.int .u64 y2)).drew = w3 at *
  obtain ⟨c1, f1⟩ := nx_cell h3
  go_wp2
  go_region
  generalize bits BinOp.xor IntKind.u64 y2 (IntKind.u64.wrap (y2 * 131072)) = y3
  obtain ⟨h4, k4⟩ := nx_step h3 y3
  clear c1 f1
  generalize (w3.setCell ⟨q, 0, none⟩ (.int .u64 y3)).drew = w4 at *
  obtain ⟨c1, f1⟩ := nx_cell h4
  go_wp2
  go_ret
  exact ⟨⟨_, rfl, h4⟩, (k2.trans k3 (fun _ h => .inl h)).trans k4 (fun _ h => .inl h)⟩

theorem blen_any {w : World} (n : Nat) (hn : n < 256) : Calls Tryd.prog 49 #[.int .u64 (n : Int)] w fun e w' => (∃ k : Nat, e = .returned (.int .i64 (k : Int)) ∧ n < 2 ^ k ∧ (0 < n → 2 ^ k ≤ 2 * n) ∧ k ≤ 8) ∧ Keep (fun _ => False) w w' := by
  have HL := Lib.hid (len64_any (w := w) n hn)
  have hb : (n : Int) < 256 := by omega
  go_enter Tryd.func49, Tryd.ntmps49
  go_wp2_with (go_at_call 63; refine HL.out.mono ?_; rintro e w1 ⟨⟨k, rfl, h1⟩, k1⟩; have H1 := Lib.hid h1; have K1 := Lib.hid k1; clear h1 k1)
  go_ret
  exact ⟨⟨k, rfl, H1.out⟩, K1.out⟩

theorem npow_any {w : World} (n : Nat) (hn : n < 256) (hn0 : 0 < n) : Calls Tryd.prog 66 #[.int .i64 (n : Int)] w fun e w' => (∃ m : Nat, e = .returned (.int .u64 ((2 ^ m : Nat) : Int)) ∧ 2 ^ m ≤ 2 * n ∧ n < 2 ^ m ∧ m ≤ 8) ∧ Keep (fun _ => False) w w' := by
  have HL := Lib.hid (blen_any (w := w) n hn)
  have hb : (n : Int) < 256 := by omega
  go_enter Tryd.func66, Tryd.ntmps66
  go_wp2_with fail
  refine HL.out.mono ?_
  rintro e w1 ⟨⟨k, rfl, h1⟩, k1⟩
  have H1 := Lib.hid (h1.2.1 hn0); have H2 := Lib.hid h1.1; have K1 := Lib.hid k1
  have hk : k = 0 ∨ k = 1 ∨ k = 2 ∨ k = 3 ∨ k = 4 ∨ k = 5 ∨ k = 6 ∨ k = 7 ∨ k = 8 := by omega
  clear h1 k1 HL
  rcases hk with rfl | rfl | rfl | rfl | rfl | rfl | rfl | rfl | rfl
  all_goals
    go_wp2
    go_ret
    exact ⟨⟨_, rfl, H1.out, H2.out, by omega⟩, K1.out⟩

end Go.Proofs.YtdkigiemhkoijaaDoor.Ino
