/- Texts: the program's Words. -/
import Derived.Test.YtcodbomgodkcmaaGreatDoorLinN
import Derived.Test.YtcodbomgodkcmaaGreatDoorLinU
namespace Go.Proofs.YtcodbomgodkcmaaGreatDoor.Lin
open Go.RowKit Go.Maps Go.Proofs.YtcodbomgodkcmaaGreatDoor
set_option maxRecDepth 100000

theorem blank_gives {w : World} : PredAt Tryz.prog 94 #[] encR blankR w := fun W r _ => by
  unfold FnGives
  by_cases h : r = 32
  · subst h
    go_enter Tryz.func94, Tryz.ntmps94
    go_wp2
    go_ret
    exact ⟨rfl, 0, rfl⟩
  · have h1 : ((r : Int) == 32) = false := by rw [beq_eq_false_iff_ne]; omega
    have hb : blankR r = decide (r = 9) := by unfold blankR; rw [show (r == 32) = false by simpa using h, Bool.false_or]; rfl
    rw [hb]
    by_cases h9 : r = 9
    · subst h9
      go_enter Tryz.func94, Tryz.ntmps94
      go_wp2
      go_ret
      exact ⟨rfl, 0, rfl⟩
    · have h2 : ((r : Int) == 9) = false := by rw [beq_eq_false_iff_ne]; omega
      rw [decide_eq_false h9]
      unfold encR
      go_enter Tryz.func94, Tryz.ntmps94
      go_wp2
      go_ret
      exact ⟨rfl, 0, rfl⟩

theorem fields_cells (s : ByteArray) : (Lib.goFieldsP blankR s).map Value.string = scells (wordsL s.data.toList) := by
  rw [← fields_words, scells, List.map_map]
  rfl
theorem fields_len (s : ByteArray) : (Lib.goFieldsP blankR s).length = (wordsL s.data.toList).length := by rw [← fields_words, List.length_map]

theorem words_any {w : World} (s : ByteArray) (hs : s.size ≤ 1000000) : Calls Tryz.prog 39 #[.string s] w (AnsL (wordsL s.data.toList) w) := by
  have H := Tryz.strings_FieldsFunc 94 #[] (enters_of Tryz.func94 (by kernel_rfl) rfl) blankR s w (by omega) blank_gives
  rw [fields_cells, fields_len] at H
  obtain ⟨L, hL⟩ : ∃ L, L = wordsL s.data.toList := ⟨_, rfl⟩
  rw [← hL] at H ⊢
  clear hL
  go_enter Tryz.func39, Tryz.ntmps39
  go_wp2_with (refine H.mono ?_; rintro e w1 ⟨g, rfl, hg, hr, hb⟩; have HR := Lib.hid hr; have HB := Lib.hid hb; have HG := Lib.hid hg; clear hr hb hg)
  go_ret
  exact ⟨_, rfl, Row.of_owns HR.out, fun b hb => by cases hb; exact HG.out, Keep.of_below HB.out⟩
end Go.Proofs.YtcodbomgodkcmaaGreatDoor.Lin
