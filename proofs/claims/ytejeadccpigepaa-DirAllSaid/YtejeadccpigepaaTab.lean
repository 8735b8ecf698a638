/- Files on blocks: tables: which slots an indirect block names, whether any is used, what it holds. -/
import Derived.Test.YtejeadccpigepaaInoD
namespace Go.Proofs.Ytejeadccpigepaa.Ino
open Go.RowKit Go.Maps Go.Proofs.Ytejeadccpigepaa
set_option maxRecDepth 100000

def namedFrom (k : Nat) : Nat := if k = 202 then 201 else if k = 200 then 8 else 136
def namedTo (k : Nat) : Nat := if k = 202 then 202 else if k = 200 then 136 else 200
def namedL (T : List Nat) (k : Nat) : List Nat := (T.drop (namedFrom k)).take (namedTo k - namedFrom k)
def usedB (T : List Nat) (k : Nat) : Bool := (namedL T k).any fun x => x != 0

theorem parts_any {w : World} (n : Nat) (h : n ≤ 1000000) :
    Calls Try.prog 43 #[.int .i64 (n : Int)] w fun e w' => e = .returned (.int .i64 (((n + 511) / 512 : Nat) : Int)) ∧ w = w' := by
  go_enter Try.func43, Try.ntmps43
  have e : (((n + 511) / 512 : Nat) : Int) = ((n : Int) + 512 - 1) / 512 := by omega
  rw [e]
  go_wp2
  go_ret
  exact ⟨rfl, rfl⟩

theorem named_any {w : World} (k : Nat) (h : k = 200 ∨ k = 201 ∨ k = 202) :
    Calls Try.prog 74 #[.int .i64 (k : Int)] w fun e w' => e = .returned (.tuple #[.int .i64 (namedFrom k : Int), .int .i64 (namedTo k : Int)]) ∧ w = w' := by
  rcases h with rfl | rfl | rfl
  all_goals
    go_enter Try.func74, Try.ntmps74
    go_wp2
    go_ret2
    exact ⟨rfl, rfl⟩

theorem usedC_zero {w : World} : Calls Try.prog 76 #[.int .u32 0] w fun e w' => e = .returned (.bool false) ∧ w = w' := by
  go_enter Try.func76, Try.ntmps76
  go_wp2
  go_ret
  exact ⟨rfl, rfl⟩

theorem usedC_pos {w : World} (x : Nat) (h : x ≠ 0) : Calls Try.prog 76 #[.int .u32 (x : Int)] w fun e w' => e = .returned (.bool true) ∧ w = w' := by
  have h2 : ((x : Int) != 0) = true := by simpa using h
  go_enter Try.func76, Try.ntmps76
  go_wp2
  go_ret
  exact ⟨by rw [← h2]; rfl, rfl⟩

theorem Try.enUsed : ∀ args w, (callFunc 76 args).run Try.prog w = .ok (.enter 76 args) w := enters_of Try.func76 (by kernel_rfl) rfl

set_option maxHeartbeats 1000000 in
theorem indexF_any {w : World} {g off : Nat} {L : List Nat} {n : Nat} (hn : L.length = n) (hc : w.rangeAt g off (tabL L)) (hm : n ≤ 1000) (c : Nat) :
    Calls Try.prog 79 #[.slice (some ⟨g, off, none⟩) n c, .func (.func 76) #[] #[]] w fun e w' => (∃ i : Int, e = .returned (.int .i64 i) ∧ decide (0 ≤ i) = L.any fun x => x != 0) ∧ w = w' := by
  have HC := Lib.hid hc
  have hen := Try.enUsed
  clear hc
  go_enter Try.func79, Try.ntmps79
  go_wp2
  go_loop [8] (fun i => ∃ k : Nat, k ≤ n ∧ i = .int .i64 (k : Int) ∧ ∀ t (h : t < L.length), t < k → L[t] = 0) (fun i => n - (intOf i).toNat)
  case atStart => exact ⟨0, by omega, rfl, fun _ _ h => by omega⟩
  case round =>
    obtain ⟨k, hk, rfl, hz⟩ := hrel
    have HZ := Lib.hid hz
    clear hz
    by_cases hlt : k < n
    · have hkT : k < L.length := by omega
      have c1 : w.cell? ⟨g, off + k, none⟩ = some (.int .u32 ((L[k] : Nat) : Int)) := HC.out k _ (tabL_get L k hkT)
      have HX : Hid (L[k] = L[k]) := Lib.hid rfl
      obtain ⟨x, hx⟩ : ∃ x, L[k] = x := ⟨_, rfl⟩
      have HXX := Lib.hid hx
      rw [hx] at c1
      clear hx HX
      by_cases h0 : x = 0
      · subst h0
        go_wp2_with (go_at_call 76; refine usedC_zero.mono ?_; rintro e w' ⟨rfl, rfl⟩)
        go_round
        case rel => exact ⟨k + 1, by omega, by go_num, fun t ht h => by
          rcases Nat.lt_succ_iff_lt_or_eq.1 h with h | rfl
          · exact HZ.out t ht h
          · exact HXX.out⟩
        case measure => simp [intOf]; omega
      · have hb : (x != 0) = true := by simpa using h0
        go_wp2_with (go_at_call 76; refine (usedC_pos x h0).mono ?_; rintro e w' ⟨rfl, rfl⟩)
        go_ret
        refine ⟨⟨(k : Int), rfl, ?_⟩, rfl⟩
        have h1 : (L.any fun x => x != 0) = true := List.any_eq_true.2 ⟨x, by rw [← HXX.out]; exact List.getElem_mem hkT, hb⟩
        rw [h1, decide_eq_true_eq]; omega
    · obtain rfl : k = n := by omega
      go_wp2
      go_ret
      refine ⟨⟨-1, rfl, ?_⟩, rfl⟩
      have h1 : (L.any fun x => x != 0) = false := List.any_eq_false.2 (fun x hx => by
        obtain ⟨t, ht, rfl⟩ := List.mem_iff_getElem.1 hx
        simp [HZ.out t ht (by omega)])
      rw [h1]; rfl

theorem containsF_any {w : World} {g off : Nat} {L : List Nat} {n : Nat} (hn : L.length = n) (hc : w.rangeAt g off (tabL L)) (hm : n ≤ 1000) (c : Nat) :
    Calls Try.prog 75 #[.slice (some ⟨g, off, none⟩) n c, .func (.func 76) #[] #[]] w fun e w' => e = .returned (.bool (L.any fun x => x != 0)) ∧ w = w' := by
  have HC := Lib.hid (indexF_any hn hc hm c)
  clear hc
  go_enter Try.func75, Try.ntmps75
  go_wp2_with (go_at_call 79; refine HC.out.mono ?_; rintro e w' ⟨⟨i, rfl, hi⟩, rfl⟩)
  go_ret
  exact ⟨by rw [← hi]; rfl, rfl⟩

end Go.Proofs.Ytejeadccpigepaa.Ino
