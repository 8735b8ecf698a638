/- Files on blocks: first; get32; what a page says. -/
import Derived.Test.YtdkigiemhkoijaaDoorFull5
import Derived.Laws.BitsAllLaws
namespace Go.Proofs.YtdkigiemhkoijaaDoor.Ino
open Go.RowKit Go.Maps Go.Proofs.YtdkigiemhkoijaaDoor
set_option maxRecDepth 100000

theorem kdq (w : World) (n : Nat) {F : Nat → Prop} : Keep F w (w.drewN n) := ⟨rfl, rfl, rfl, Nat.le_refl _, fun _ _ _ => rfl⟩

/-- The first part for which a file has a block at a slot. -/
def firstP (k : Nat) : Nat := if k < 200 then k else if k = 200 then 8 else 136

theorem first_lo {w : World} (k : Nat) (hk : k < 200) : Calls Tryd.prog 38 #[.int .i64 (k : Int)] w fun e w' => e = .returned (.int .i64 (k : Int)) ∧ w = w' := by
  have d1 : decide ((k : Int) < 200) = true := by rw [decide_eq_true_eq]; omega
  go_enter Tryd.func38, Tryd.ntmps38
  go_wp2
  go_ret
  exact ⟨rfl, rfl⟩

theorem first_200 {w : World} : Calls Tryd.prog 38 #[.int .i64 200] w fun e w' => e = .returned (.int .i64 8) ∧ w = w' := by
  go_enter Tryd.func38, Tryd.ntmps38
  go_wp2_with (first | (go_at_call 36; refine (named_any 200 (by omega)).mono ?_; rintro e w' ⟨rfl, rfl⟩) | (go_at_call 38; refine (first_lo 8 (by omega)).mono ?_; rintro e w' ⟨rfl, rfl⟩))
  go_ret
  exact ⟨rfl, rfl⟩

theorem first_201 {w : World} : Calls Tryd.prog 38 #[.int .i64 201] w fun e w' => e = .returned (.int .i64 136) ∧ w = w' := by
  go_enter Tryd.func38, Tryd.ntmps38
  go_wp2_with (first | (go_at_call 36; refine (named_any 201 (by omega)).mono ?_; rintro e w' ⟨rfl, rfl⟩) | (go_at_call 38; refine (first_lo 136 (by omega)).mono ?_; rintro e w' ⟨rfl, rfl⟩))
  go_ret
  exact ⟨rfl, rfl⟩

theorem first_202 {w : World} : Calls Tryd.prog 38 #[.int .i64 202] w fun e w' => e = .returned (.int .i64 136) ∧ w = w' := by
  go_enter Tryd.func38, Tryd.ntmps38
  go_wp2_with (first | (go_at_call 36; refine (named_any 202 (by omega)).mono ?_; rintro e w' ⟨rfl, rfl⟩) | (go_at_call 38; refine first_201.mono ?_; rintro e w' ⟨rfl, rfl⟩))
  go_ret
  exact ⟨rfl, rfl⟩

theorem first_any {w : World} (k : Nat) (hk : k < 203) : Calls Tryd.prog 38 #[.int .i64 (k : Int)] w fun e w' => e = .returned (.int .i64 ((firstP k : Nat) : Int)) ∧ w = w' := by
  by_cases h : k < 200
  · rw [firstP, if_pos h]; exact first_lo k h
  · rcases (show k = 200 ∨ k = 201 ∨ k = 202 by omega) with rfl | rfl | rfl
    · exact first_200
    · exact first_201
    · exact first_202

theorem or_up {a i : Nat} (b : Nat) (h : a < 2 ^ i) : a ||| b * 2 ^ i = b * 2 ^ i + a := by
  rw [Nat.or_comm, ← Nat.shiftLeft_eq, ← Nat.shiftLeft_add_eq_or_of_lt h]

theorem le32_or {x0 x1 x2 x3 : Nat} (h0 : x0 < 256) (h1 : x1 < 256) (h2 : x2 < 256) (h3 : x3 < 256) : bits .or .u32 (bits .or .u32 (bits .or .u32 (x0 : Int) ((x1 : Int) * 256)) ((x2 : Int) * 65536)) ((x3 : Int) * 16777216) = ((x3 * 16777216 + x2 * 65536 + x1 * 256 + x0 : Nat) : Int) := by
  have e1 : ((x1 : Int) * 256) = ((x1 * 2 ^ 8 : Nat) : Int) := by omega
  have e2 : ((x2 : Int) * 65536) = ((x2 * 2 ^ 16 : Nat) : Int) := by omega
  have e3 : ((x3 : Int) * 16777216) = ((x3 * 2 ^ 24 : Nat) : Int) := by omega
  rw [e1, e2, e3, u32_or_nat _ _ (by omega) (by omega), or_up x1 (by omega), u32_or_nat _ _ (by omega) (by omega), or_up x2 (by omega), u32_or_nat _ _ (by omega) (by omega), or_up x3 (by omega)]
  omega

/-- Four bytes as a number. -/
theorem get32_any {w : World} {v : Value} {n : Nat} {x : Nat} {r : List UInt8} (hx : x < 4294967296) (h : Seen w 1 v n (bcells (le32 x ++ r))) : Calls Tryd.prog 32 #[v] w fun e w' => e = .returned (.int .u32 (x : Int)) ∧ Keep (fun _ => False) w w' := by
  obtain ⟨hl, ad, cap, rfl, hc1, hc2, hsn⟩ := h
  have hn : n = 4 + r.length := by
    have := hl
    simp [bcells_length, le32] at this
    omega
  obtain ⟨g, o, rfl, hg, hcl⟩ := hsn.resolve_left (by omega)
  have c0 := hcl 0 (.int .u8 ((x : Int) % 256)) (by rw [bcells_append]; simp [bcells, le32])
  have c1 := hcl 1 (.int .u8 ((x : Int) / 256 % 256)) (by rw [bcells_append]; simp [bcells, le32])
  have c2 := hcl 2 (.int .u8 ((x : Int) / 65536 % 256)) (by rw [bcells_append]; simp [bcells, le32])
  have c3 := hcl 3 (.int .u8 ((x : Int) / 16777216)) (by rw [bcells_append]; simp [bcells, le32]; omega)
  rw [Nat.add_zero] at c0
  have hn4 : 4 ≤ n := by omega
  clear hcl hl hn hsn
  obtain ⟨x0, h0⟩ : ∃ x0, x0 = x % 256 := ⟨_, rfl⟩
  obtain ⟨x1, h1⟩ : ∃ x1, x1 = x / 256 % 256 := ⟨_, rfl⟩
  obtain ⟨x2, h2⟩ : ∃ x2, x2 = x / 65536 % 256 := ⟨_, rfl⟩
  obtain ⟨x3, h3⟩ : ∃ x3, x3 = x / 16777216 := ⟨_, rfl⟩
  rw [show (x : Int) % 256 = (x0 : Int) by omega] at c0
  rw [show (x : Int) / 256 % 256 = (x1 : Int) by omega] at c1
  rw [show (x : Int) / 65536 % 256 = (x2 : Int) by omega] at c2
  rw [show (x : Int) / 16777216 = (x3 : Int) by omega] at c3
  have hb : x0 < 256 ∧ x1 < 256 ∧ x2 < 256 ∧ x3 < 256 := by omega
  have HX := Lib.hid (And.intro h0 (And.intro h1 (And.intro h2 h3)))
  clear h0 h1 h2 h3
  go_enter Tryd.func32, Tryd.ntmps32
  go_wp2
  go_quiet (fail)
  go_wp2
  go_ret
  have hX := HX.out
  rw [le32_or hb.1 hb.2.1 hb.2.2.1 hb.2.2.2, show x3 * 16777216 + x2 * 65536 + x1 * 256 + x0 = x by omega]
  exact ⟨rfl, kdq _ _⟩

end Go.Proofs.YtdkigiemhkoijaaDoor.Ino
