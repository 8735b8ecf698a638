/- DiskNone answers true: no disk, and how great one may be. -/
import Derived.Test.YteonndghjiameaaLawA
import Derived.ProofKit
namespace Go.Proofs.Yteonndghjiameaa
open Go.ChangeShapes Go.WideShapes Go.ChangeAt Go.RowKit

set_option maxHeartbeats 1000000 in
set_option maxRecDepth 100000 in
theorem none_any {w : World} : Calls Try.prog 3 #[] w fun e w' => e = .returned (.bool true) ∧ Keep (fun _ => False) w w' := by
  go_enter Try.func3, Try.ntmps3
  obtain ⟨i0, hi0, hz0, hz1, hz2⟩ := info_parts Try.infoB
  go_wp2_with (first | (go_at_call 6; refine (read_nil _).mono ?_; rintro e w' ⟨rfl, rfl⟩) | (go_at_call 7; refine flush_nil.mono ?_; rintro e w' ⟨rfl, rfl⟩) | (go_at_call 8; refine (limit_nil _).mono ?_; rintro e w' ⟨rfl, rfl⟩) | (go_at_call 9; refine begun_any.mono ?_; rintro e w1 ⟨rfl, hk1⟩; have HK1 := Lib.hid hk1; clear hk1) | (go_at_call 10; refine (is_same 1 rfl).mono ?_; rintro e w' ⟨rfl, rfl⟩) | (at_make; go_loud (refine wpList_make_row_g rfl (.const (.int .i64 512)) (.const (.int .i64 512)) rfl Try.underlying23 hi0 hz0 hz1 hz2 512 rfl rfl rfl rfl (by omega) (by simp [maxLen]) ?mk)))
  case mk =>
    intro w2 _ hk2 _
    have HK2 := Lib.hid (HK1.out.trans hk2 (fun _ h => h.elim))
    clear hk2
    go_wp2_with (first | (go_at_call 11; refine (write_nil _ _ _ _).mono ?_; rintro e w' ⟨rfl, rfl⟩) | (go_at_call 12; refine len_nil.mono ?_; rintro e w' ⟨rfl, rfl⟩) | (go_at_call 13; refine writes_nil.mono ?_; rintro e w' ⟨rfl, rfl⟩) | (go_at_call 14; refine waiting_nil.mono ?_; rintro e w' ⟨rfl, rfl⟩) | (go_at_call 15; refine dead_nil.mono ?_; rintro e w' ⟨rfl, rfl⟩) | (go_at_call 16; refine crash_nil.mono ?_; rintro e w' ⟨rfl, rfl⟩) | (go_at_call 10; refine (is_same 1 rfl).mono ?_; rintro e w' ⟨rfl, rfl⟩) | (go_at_call_of 17 (Value.int IntKind.i64 4096); refine (new_any 4096 (by omega) (by omega)).mono ?_; rintro e w3 ⟨p, vl, vn, rfl, _, hk3, _⟩; have HK3 := Lib.hid (HK2.out.trans hk3 (fun _ h => h.elim)); clear hk3) | (go_at_call 17; refine (new_out _ (by omega)).mono ?_; rintro e w' ⟨rfl, rfl⟩))

    go_ret
    exact ⟨rfl, HK3.out⟩

theorem Try.own : ownKnob Try.prog.godebug = none := by kernel_rfl
theorem Try.laidOut : laidOutB Try.prog = true := by kernel_rfl

set_option maxRecDepth 100000 in
theorem none_lifted (os : Os) (started : os.Started) (H : Type) (enc : TypeId × Value → H) :
    ReturnsInHanded {} Try.checked os 3 .any (Rows.diskNoneSpec.pre6 enc Try.prog Try.f3 Rows.diskNoneRow.domain false) (Rows.diskNoneSpec.post enc Try.prog Try.f3 false true false false) := by
  refine returnsInHanded_of_change (C := Try.checked) Try.own started (by kernel_rfl) Try.func3
    (ChangeSpec.witness6 (enc := enc) (C := Try.checked) false ⟨#[], #[], []⟩ 8 (by kernel_rfl) (by kernel_rfl) (by kernel_rfl) (by kernel_rfl)) ?_
  intro W base args ds gs before hval0 hW hcnd _
  have hW' := hW
  obtain ⟨p, q, hA0, hV, rfl, hfz, hnd⟩ := hW
  have hA : DataW.TrodAll enc Try.prog W 0 (fun _ => true) true Try.f3.params.toList args.toList ds p := hA0
  rw [Try.params3] at hA
  obtain ⟨rfl, rfl, rfl⟩ := trodAll_none hA
  obtain ⟨rfl, rfl⟩ := trodVars_none hV
  refine (none_any (w := W)).mono fun e W' ⟨he, hk⟩ => ?_
  subst he
  exact ⟨_, rfl, _, _, _, [], [], [], hW', trodAll_cons_mk (shut_bool Try.underlying4 _) trodAll_mk0, rfl, rfl, hk.below0.frame _, fun h => by cases h⟩

theorem diskNone_holds : Rows.DiskNoneSaid :=
  OpenClaim.holds_of_wide 3 Try.f3 rfl rfl rfl rfl rfl rfl rfl ⟨rfl, rfl, rfl, rfl, rfl⟩ rfl rfl rfl rfl rfl (by kernel_rfl) Try.func3 (by kernel_rfl)
    (of_decide_eq_true (by kernel_rfl)) (by unfold Func.isWrapper; first | (rw [if_pos (by decide +kernel)]; kernel_rfl) | (rw [if_neg (by decide +kernel)]; exact ⟨rfl, rfl⟩))
    (fun os started H enc _ => none_lifted os started H enc)

end Go.Proofs.Yteonndghjiameaa
