/- WalNone answers true: no log, no disk, one that is too small, dead. -/
import Derived.Test.YtlhghhidmcadjaaDoorW3
import Derived.Test.YtlhghhidmcadjaaDoorCrcLift
import Derived.Test.YtlhghhidmcadjaaDoorTie
import Derived.Test.YtlhghhidmcadjaaDoorCards
import Derived.SevenTiedAt
namespace Go.Proofs.YtlhghhidmcadjaaDoor
open Go.ChangeShapes Go.WideShapes Go.ChangeAt Go.RowKit Go.Deep
set_option maxRecDepth 100000

theorem opensmall_g {w0 wr : World} {p : Nat} {D : Dk} {n : Nat} (h : Dg w0 wr p D n) (hl : D.las.length < 128) :
    Calls Tryd.prog 10 #[.pointer (some ⟨p, 0, none⟩)] wr fun e w' => e = .returned (.tuple #[.pointer none, apiErr 3]) ∧ wr = w' := by
  obtain ⟨F, h1, h2, h3, h4⟩ := h
  exact open_small h1 hl

theorem limit_g {w0 wr : World} {p : Nat} {D : Dk} {n : Nat} (h : Dg w0 wr p D n) (k : Int) (hk : k ≤ 1099511627776) (hd : deadB D = false) :
    Calls Tryd.prog 12 #[.pointer (some ⟨p, 0, none⟩), .int .i64 k] wr fun e w' => e = .returned (.tuple #[]) ∧ Dg w0 w' p (D.limit k) n := by
  obtain ⟨F, ⟨⟨vl, vn, vc, h1, hF⟩, hlt, hm⟩, h2, h3, h4⟩ := h
  refine (limit_any h1 k hd).mono ?_
  rintro e w' ⟨rfl, hd', hk', hs⟩
  have hp : F p := hF p (.inl rfl)
  exact ⟨rfl, F, ⟨⟨vl, vn, vc, hd', hF⟩, fun b hb => by rw [hs]; exact hlt b hb, hm.limit k hk⟩, h2, h3.behind hk' (h2 p hp), h4⟩

theorem dead_open {D : Dk} (h : deadB D = true) : openD D = D := by
  unfold openD
  rw [df_dead h]
  split
  · rfl
  · exact settle_dead h _

set_option maxHeartbeats 1000000 in
theorem walNone_any {w : World} (hT : Tab w) : Calls Tryd.prog 5 #[] w fun e w' => e = .returned (.bool true) ∧ Keep (fun _ => False) w w' := by
  have HT := Lib.hid hT
  have HL0 : Hid (deadB ((Dk.fresh (List.replicate 128 zeroSec)).limit 0) = true) := Lib.hid rfl
  clear hT
  obtain ⟨i0, hi0, hz0, hz1, hz2⟩ := info_parts Tryd.infoB
  go_enter Tryd.func5, Tryd.ntmps5
  go_wp2_with (first | (go_at_call 25; refine lmark_nil.mono ?_; rintro e w' ⟨rfl, rfl⟩) | (go_at_call 26; refine lback_nil.mono ?_; rintro e w' ⟨rfl, rfl⟩) | (go_at_call 24; refine (lread_nil _).mono ?_; rintro e w' ⟨rfl, rfl⟩) | (go_at_call_of 10 (Value.pointer none); refine open_nil.mono ?_; rintro e w' ⟨rfl, rfl⟩) | (go_at_call_of 9 (Value.int IntKind.i64 127); refine (new_g (Keep.refl _ w) HT.out 127 (by omega) (by omega)).mono ?_; rintro e w1 ⟨p, rfl, h1⟩; have H1 := Lib.hid h1; have K1 := Lib.hid (show Keep (fun _ => False) w w1 by obtain ⟨_, _, _, h, _⟩ := h1; exact h); clear h1))
  refine (opensmall_g H1.out (by simp [Dk.fresh])).mono ?_
  rintro e w2 ⟨rfl, rfl⟩
  go_wp2_with fail
  refine (new_g K1.out HT.out 128 (by omega) (by omega)).mono ?_
  rintro e w3 ⟨p3, rfl, h3⟩
  have H3 := Lib.hid h3; clear h3
  go_wp2_with fail
  refine (limit_g H3.out 0 (by omega) rfl).mono ?_
  rintro e w4 ⟨rfl, h4⟩
  have H4 := Lib.hid h4; clear h4
  go_wp2_with fail
  refine (open_dead_g H4.out (by omega) (by simp [Dk.fresh, Dk.limit]) (by simp [Dk.fresh, Dk.limit]) (by rw [dead_open HL0.out]; exact HL0.out)).mono ?_
  rintro e w5 ⟨rfl, h5⟩
  have K5 := Lib.hid (show Keep (fun _ => False) w w5 by obtain ⟨_, _, _, h, _⟩ := h5; exact h)
  clear h5
  go_wp2_with fail
  refine (begun3_any (tab_at K5.out HT.out)).mono ?_
  rintro e w6 ⟨rfl, k6⟩
  have K6 := Lib.hid (K5.out.trans k6 (fun _ h => h.elim)); clear k6
  go_wp2_with (first | (go_at_call 27; refine (is_same 1 rfl).mono ?_; rintro e w' ⟨rfl, rfl⟩) | (at_make; go_loud (refine wpList_make_row_g rfl (.const (.int .i64 512)) (.const (.int .i64 512)) rfl Tryd.underlying40 hi0 hz0 hz1 hz2 512 rfl rfl rfl rfl (by omega) (by simp [maxLen]) ?mk)))
  case mk =>
    intro w7 _ k7 _
    have K7 := Lib.hid (K6.out.trans k7 (fun _ h => h.elim)); clear k7
    go_wp2_with (first | (go_at_call 16; refine (lput_nil _ _).mono ?_; rintro e w' ⟨rfl, rfl⟩) | (go_at_call 17; refine lsync_nil.mono ?_; rintro e w' ⟨rfl, rfl⟩) | (go_at_call 28; refine lwait_nil.mono ?_; rintro e w' ⟨rfl, rfl⟩) | (go_at_call 27; refine (is_same _ (by decide)).mono ?_; rintro e w' ⟨rfl, rfl⟩))
    go_ret
    exact ⟨rfl, K7.out⟩

set_option maxRecDepth 100000 in
theorem walNone_lifted (os : Os) (started : os.Started) (H : Type) (enc : TypeId × Value → H) :
    ReturnsInHanded {} Tryd.checked os 5 .any (fun w args => (Rows.walNoneSpec.pre enc Tryd.prog Tryd.f5 [] false w args ∧ laidMetH Tryd.prog laidTab w) ∧ sizedMet enc Tryd.prog Tryd.f5 (OpenSpec.ofChange Rows.walNoneSpec) false w args)
      (Rows.walNoneSpec.post enc Tryd.prog Tryd.f5 false true false false) := by
  refine returnsInHanded_of_change_and (C := Tryd.checked) (X := fun w _ => laidMetH Tryd.prog laidTab w) (fun _ _ _ hh h => h.of_heap hh) Tryd.ownC started (by kernel_rfl) Tryd.func5
    (ChangeSpec.witness_shaped (enc := enc) (C := Tryd.checked) (os := os) (X := fun w _ => laidMetH Tryd.prog laidTab w) false (World.doorLaid Tryd.prog 14 os) #[] 8 rfl (World.shaped_of_RefB (by kernel_rfl) (by kernel_rfl)) (by kernel_rfl) (by kernel_rfl) (by kernel_rfl) (door_met os _)) ?_
  intro W base args ds gs before hval0 hW _ _ hL _
  have hW' := hW
  obtain ⟨p, q, hA0, hV, rfl, hfz, hnd⟩ := hW
  have hA : DataW.TrodAll enc Tryd.prog W 0 (fun _ => true) true Tryd.f5.params.toList args.toList ds p := hA0
  rw [Tryd.params5] at hA
  obtain ⟨rfl, rfl, rfl⟩ := trodAll_none hA
  obtain ⟨rfl, rfl⟩ := trodVars_none hV
  refine (walNone_any (tab_of_laid hL)).mono fun e W' ⟨he, hk⟩ => ?_
  subst he
  exact ⟨_, rfl, _, _, _, [], [], [], hW', trodAll_cons_mk (shut_bool Tryd.underlying4 _) trodAll_mk0, rfl, rfl, hk.below0.frame _, fun h => by cases h⟩

theorem walNone_row_holds : Rows.WalNoneSaid :=
  OpenClaim.holds_of_wide 5 Tryd.f5 rfl rfl rfl rfl rfl rfl rfl ⟨rfl, rfl, rfl, rfl, rfl⟩ rfl rfl rfl rfl rfl (by kernel_rfl) Tryd.func5 (by kernel_rfl)
    (of_decide_eq_true (by kernel_rfl)) (by unfold Func.isWrapper; first | (rw [if_pos (by decide +kernel)]; kernel_rfl) | (rw [if_neg (by decide +kernel)]; exact ⟨rfl, rfl⟩))
    (fun os started H enc _ => walNone_lifted os started H enc)

theorem walNone_holds : Rows.WalNoneCardSaid :=
  Claim7.holds_tied_plain_at .later [] [.data] true Rows.walNoneCard.stood.harness Rows.walNoneCard.stood.looks
    walNone_row_holds (fun _ h => by cases h) (by kernel_rfl) (fun _ h => by cases h) walNone_row_tie rfl ⟨rfl, rfl⟩ (by kernel_rfl) rfl
    (fun f fn hf hfn => by
      obtain rfl : f = 5 := Option.some.inj ((show Tryd.prog.funcNamed "lychgate/lychgatelaw3.WalNone" = some 5 by kernel_rfl).symm.trans hf) |>.symm
      obtain rfl : fn = Tryd.f5 := (Option.some.inj (Tryd.func5.symm.trans hfn)).symm
      exact ⟨by kernel_rfl, fun j t ht => by
        rw [Tryd.params5] at ht
        simp at ht⟩)
    (by kernel_rfl)

end Go.Proofs.YtlhghhidmcadjaaDoor
