/- Files on blocks: New, works, Size, Blocks. -/
import Derived.Test.YtdkigiemhkoijaaDoorLaid
namespace Go.Proofs.YtdkigiemhkoijaaDoor.Ino
open Go.RowKit Go.Maps Go.Proofs.YtdkigiemhkoijaaDoor
set_option maxRecDepth 100000

theorem works_any {w : World} {F : Nat → Prop} {p s : Nat} {S : Sto} {size : Nat} {T : List Nat} (h : IsFile w F p s S size T) :
    Calls Tryd.prog 13 #[.pointer (some ⟨p, 0, none⟩)] w fun e w' => e = .returned (.bool true) ∧ w = w' := by
  have c0 := h.cell 0
  simp only [List.getElem?_cons_zero] at c0
  clear h
  go_enter Tryd.func13, Tryd.ntmps13
  go_wp2
  go_ret
  exact ⟨rfl, rfl⟩

theorem size_any {w : World} {F : Nat → Prop} {p s : Nat} {S : Sto} {size : Nat} {T : List Nat} (h : IsFile w F p s S size T) :
    Calls Tryd.prog 9 #[.pointer (some ⟨p, 0, none⟩)] w fun e w' => e = .returned (.int .i64 (size : Int)) ∧ w = w' := by
  have c0 := h.cell 1
  simp only [List.getElem?_cons_succ, List.getElem?_cons_zero] at c0
  clear h
  go_enter Tryd.func9, Tryd.ntmps9
  go_wp2
  go_ret
  exact ⟨rfl, rfl⟩

/-- How many of the first k slots have a block. -/
def cntB (T : List Nat) : Nat → Nat
  | 0 => 0
  | k + 1 => cntB T k + if tg T k = 0 then 0 else 1

theorem cntB_le (T : List Nat) (k : Nat) : cntB T k ≤ k := by
  induction k with
  | zero => exact Nat.le_refl _
  | succ k ih => rw [cntB]; split <;> omega

set_option maxHeartbeats 1000000 in
theorem blocks_any {w : World} {F : Nat → Prop} {p s : Nat} {S : Sto} {size : Nat} {T : List Nat} (h : IsFile w F p s S size T) :
    Calls Tryd.prog 10 #[.pointer (some ⟨p, 0, none⟩)] w fun e w' => e = .returned (.int .i64 (cntB T 203 : Int)) ∧ w = w' := by
  have HR := Lib.hid h.range
  have hT := h.len
  clear h
  go_enter Tryd.func10, Tryd.ntmps10
  go_wp2_with (refine wpList_load_tab rfl _ rfl p 2 T hT rfl HR.out ?_)
  go_loop [3, 12] (fun c i => ∃ k : Nat, k ≤ 203 ∧ i = .int .i64 (k : Int) ∧ c = .int .i64 (cntB T k : Int)) (fun _ i => 203 - (intOf i).toNat)
  case atStart => exact ⟨0, by omega, rfl, rfl⟩
  case round =>
    obtain ⟨k, hk, rfl, rfl⟩ := hrel
    have hcl := cntB_le T k
    by_cases hlt : k < 203
    · have hd : decide ((k : Int) < 203) = true := by rw [decide_eq_true_eq]; omega
      have HST := Lib.hid (show cntB T (k + 1) = cntB T k + if tg T k = 0 then 0 else 1 from rfl)
      by_cases h0 : tg T k = 0
      · have hix : ∀ {ops : Array Oper} {rest : List Oper} {o : Oper} {a : Act} {w : World} {Q : Exit → Act → World → Prop}, o.guard = none → ∀ (x y : Operand), o.op = .index 47 x y → a.eval x = .agg (tabL T).toArray → a.eval y = .int .i64 (k : Int) → wpList Tryd.prog ops Q rest (a.put o.dst (.int .u32 0)) w → wpList Tryd.prog ops Q (o :: rest) a w := fun hg x y ho hx hy h => wpList_index_tab hg x y ho T k hlt hT hx hy (by rw [h0]; exact h)
        rw [if_pos h0] at HST
        clear h0
        go_wp2_with (refine hix rfl _ _ rfl rfl rfl ?_)
        go_round
        case rel => exact ⟨k + 1, by omega, by go_num, by rw [HST.out]; rfl⟩
        case measure => simp [intOf]; omega
      · have hix : ∀ {ops : Array Oper} {rest : List Oper} {o : Oper} {a : Act} {w : World} {Q : Exit → Act → World → Prop}, o.guard = none → ∀ (x y : Operand), o.op = .index 47 x y → a.eval x = .agg (tabL T).toArray → a.eval y = .int .i64 (k : Int) → wpList Tryd.prog ops Q rest (a.put o.dst (.int .u32 ((tg T k : Nat) : Int))) w → wpList Tryd.prog ops Q (o :: rest) a w := fun hg x y ho hx hy h => wpList_index_tab hg x y ho T k hlt hT hx hy h
        rw [if_neg h0] at HST
        have hne : ((tg T k : Nat) : Int) ≠ 0 := by omega
        clear h0
        generalize tg T k = v at *
        have hb : ((v : Int) != 0) = true := by simpa using hne
        go_wp2_with (refine hix rfl _ _ rfl rfl rfl ?_)
        go_round
        case rel => exact ⟨k + 1, by omega, by go_num, by rw [HST.out]; go_num⟩
        case measure => simp [intOf]; omega
    · have hd : decide ((k : Int) < 203) = false := by rw [decide_eq_false_iff_not]; omega
      obtain rfl : k = 203 := by omega
      clear hlt
      go_wp2
      go_ret
      exact ⟨rfl, rfl⟩

end Go.Proofs.YtdkigiemhkoijaaDoor.Ino
