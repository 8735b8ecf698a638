/- Files on blocks: tables: used, needs, page, cut. -/
import Derived.Test.YtejeadccpigepaaTab
namespace Go.Proofs.Ytejeadccpigepaa.Ino
open Go.RowKit Go.Maps Go.Proofs.Ytejeadccpigepaa
set_option maxRecDepth 100000

theorem tabL_window {w : World} {g off : Nat} {T : List Nat} (h : w.rangeAt g off (tabL T)) (a n : Nat) : w.rangeAt g (off + a) (tabL ((T.drop a).take n)) := by
  intro j v hv
  have hj : j < ((T.drop a).take n).length := by have := (List.getElem?_eq_some_iff.1 hv).1; rwa [tabL_length] at this
  have hj2 : a + j < T.length := by simp at hj; omega
  rw [tabL_get _ j hj] at hv
  have e : ((T.drop a).take n)[j] = T[a + j] := by simp
  rw [e] at hv
  have := h (a + j) _ (tabL_get T (a + j) hj2)
  rw [← hv, Nat.add_assoc]; exact this

theorem namedL_length {T : List Nat} (hT : T.length = 203) {k : Nat} (h : k = 200 ∨ k = 201 ∨ k = 202) : (namedL T k).length = namedTo k - namedFrom k := by
  rcases h with rfl | rfl | rfl <;> simp [namedL, namedTo, namedFrom, hT]

theorem Try.slNamed (g : Nat) (w : World) : 
    (Instr.sliceAt 56 (.pointer (some ⟨g, 0, none⟩)) (some (.int .i64 8)) (some (.int .i64 136)) none).run Try.prog w = .ok (.slice (some ⟨g, 8, none⟩) 128 195) w ∧
    (Instr.sliceAt 56 (.pointer (some ⟨g, 0, none⟩)) (some (.int .i64 136)) (some (.int .i64 200)) none).run Try.prog w = .ok (.slice (some ⟨g, 136, none⟩) 64 67) w ∧
    (Instr.sliceAt 56 (.pointer (some ⟨g, 0, none⟩)) (some (.int .i64 201)) (some (.int .i64 202)) none).run Try.prog w = .ok (.slice (some ⟨g, 201, none⟩) 1 2) w := ⟨by kernel_rfl, by kernel_rfl, by kernel_rfl⟩

set_option maxHeartbeats 1000000 in
theorem used_any {w : World} {g : Nat} {T : List Nat} (hT : T.length = 203) (hc : w.rangeAt g 0 (tabL T)) (k : Nat) (hk : k = 200 ∨ k = 201 ∨ k = 202) :
    Calls Try.prog 65 #[.pointer (some ⟨g, 0, none⟩), .int .i64 (k : Int)] w fun e w' => e = .returned (.bool (usedB T k)) ∧ w = w' := by
  have hl := namedL_length hT hk
  have hwin := tabL_window hc (namedFrom k) (namedTo k - namedFrom k)
  rw [Nat.zero_add] at hwin
  have HW := Lib.hid (fun c => containsF_any hl hwin (by rcases hk with rfl | rfl | rfl <;> simp [namedTo, namedFrom]) c)
  have hs1 := fun w => (Try.slNamed g w).1
  have hs2 := fun w => (Try.slNamed g w).2.1
  have hs3 := fun w => (Try.slNamed g w).2.2
  have hmf : ∀ (fn : Fn) (first cap : Array Value) (w : World), (Instr.makeFunc fn first cap).run Try.prog w = .ok (.func fn first cap) w := fun _ _ _ _ => rfl
  have HU : Hid (usedB T k = (namedL T k).any fun x => x != 0) := Lib.hid rfl
  clear hc hwin hl hT
  rcases hk with rfl | rfl | rfl
  all_goals
    go_enter Try.func65, Try.ntmps65
    go_wp2_with (first | (go_at_call 75; refine (HW.out _).mono ?_; rintro e w' ⟨rfl, rfl⟩) | (go_at_call 74; go_in))
    go_ret
    exact ⟨by rw [HU.out]; rfl, rfl⟩

end Go.Proofs.Ytejeadccpigepaa.Ino
