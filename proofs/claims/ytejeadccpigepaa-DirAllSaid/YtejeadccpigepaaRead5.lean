/- Files on blocks: Read. -/
import Derived.Test.YtejeadccpigepaaWrite
namespace Go.Proofs.Ytejeadccpigepaa.Ino
open Go.RowKit Go.Maps Go.Proofs.Ytejeadccpigepaa
set_option maxRecDepth 100000

set_option maxHeartbeats 1000000 in
theorem readf_none {w : World} {F : Nat → Prop} {p s : Nat} {S : Sto} {size : Nat} {T : List Nat} (h : IsFile w F p s S size T) (at_ n : Nat) (hat : size ≤ at_) :
    Calls Try.prog 28 #[.pointer (some ⟨p, 0, none⟩), .int .i64 (at_ : Int), .int .i64 (n : Int)] w fun e w' => e = .returned (.tuple #[.slice none 0 0, .nilIface]) ∧ Keep (fun _ => False) w w' := by
  have HW := Lib.hid (works_any h)
  have c0 := h.cell 1
  simp only [List.getElem?_cons_succ, List.getElem?_cons_zero] at c0
  clear h
  have h1 : (size : Int) ≤ (at_ : Int) := by omega
  have h2 : ¬ (at_ : Int) < 0 := by omega
  have h3 : ¬ (n : Int) < 0 := by omega
  go_enter Try.func28, Try.ntmps28
  go_wp2_with (first | (go_at_call 37; refine HW.out.mono ?_; rintro e w1 ⟨rfl, rfl⟩))
  go_ret2
  exact ⟨rfl, Keep.refl _ w⟩

end Go.Proofs.Ytejeadccpigepaa.Ino
