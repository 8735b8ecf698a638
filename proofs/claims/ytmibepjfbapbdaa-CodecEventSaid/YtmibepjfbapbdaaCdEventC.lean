/- CodecEvent (P9.1): for whatever two events the law returns true, and its arguments read afterwards as before. No condition. -/
import Derived.Test.YtmibepjfbapbdaaCdEqW
import Derived.Test.YtmibepjfbapbdaaCdLawE
import Derived.ProofKit
namespace Go.Proofs.Ytmibepjfbapbdaa
open Go.ChangeShapes Go.WideShapes Go.ChangeAt Go.RowKit Go.Deep
set_option maxRecDepth 100000

theorem Try.ownE : ownKnob Try.prog.godebug = none := by kernel_rfl
theorem Try.laidOutE : laidOutB Try.prog = true := by kernel_rfl

theorem codecEvent_lifted (os : Os) (started : os.Started) (H : Type) (enc : TypeId × Value → H) :
    ReturnsInHanded {} Try.checked os 4 .any (Rows.codecEventSpec.pre6 enc Try.prog Try.f4 Rows.codecEventRow.domain false) (Rows.codecEventSpec.post enc Try.prog Try.f4 false true false false) := by
  refine returnsInHanded_of_change (C := Try.checked) Try.ownE started (by kernel_rfl) Try.func4
    (ChangeSpec.witness6 (enc := enc) (C := Try.checked) false ⟨#[], #[.agg #[.int .i64 0, .string ⟨#[]⟩, .string ⟨#[]⟩, .slice none 0 0], .agg #[.int .i64 0, .string ⟨#[]⟩, .string ⟨#[]⟩, .slice none 0 0]], []⟩ 8 (by kernel_rfl) (by kernel_rfl) (by kernel_rfl) (by kernel_rfl)) ?_
  intro W base args ds gs before hval0 hW hcnd _
  have hW' := hW
  obtain ⟨p, q, hA0, hV, rfl, hfz, hnd⟩ := hW
  have hA : DataW.TrodAll enc Try.prog W 0 (fun _ => true) true Try.f4.params.toList args.toList ds p := hA0
  have hA1 := hA
  have hval : ∀ (j : Nat) t v, Try.f4.params[j]? = some t → args[j]? = some v → Value.okWide Try.prog W .any base t v := hval0
  rw [Try.params4] at hA hval
  obtain ⟨v0, v1, d0, d1, p0, p1, rfl, rfl, rfl, h0, h1⟩ := trodAll_two hA
  obtain ⟨rfl, rfl⟩ := trodVars_none hV
  obtain ⟨f0, h0⟩ := h0
  obtain ⟨f1, h1⟩ := h1
  obtain ⟨x, ⟨dv1, hl1, hc1⟩, hr1⟩ := Cd.te_Event h0
  obtain ⟨y, ⟨dv2, hl2, hc2⟩, hr2⟩ := Cd.te_Event h1
  obtain ⟨⟨c0⟩, rfl, -⟩ := okWide_struct Try.underlying44 (hval 0 44 v0 rfl rfl)
  obtain ⟨⟨c1⟩, rfl, -⟩ := okWide_struct Try.underlying44 (hval 1 44 v1 rfl rfl)
  have e0 : c0 = _ := hc1
  have e1 : c1 = _ := hc2
  clear hA0 hval0 hc1 hc2
  subst e0 e1
  have hlt : ∀ x ∈ p0 ++ p1, x.block < W.heap.size := fun x hx => hW'.lt x (List.mem_append_left _ hx)
  obtain ⟨k1, s1, t1, l1⟩ := x
  obtain ⟨k2, s2, t2, l2⟩ := y
  refine (Cd.codecEvent_any Cd.eqWorld_any hl1 hl2 hr1 hr2).mono fun e W' ⟨he, hk⟩ => ?_
  subst he
  refine ⟨_, rfl, _, _, _, [], p0 ++ p1, [], hW', trodAll_cons_mk (shut_bool Try.underlying4 _) trodAll_mk0, ?_, rfl, hk.below0.frame _, fun h => by cases h⟩
  refine trodAll_stays Try.laidOutE hk.below0 _ (fun t ht => ?_) _ _ _ hA1 hlt
  rw [Try.params4] at ht
  simp only [List.mem_cons, List.not_mem_nil, or_false] at ht
  rcases ht with rfl | rfl <;> exact ⟨by kernel_rfl, of_decide_eq_true (by kernel_rfl)⟩

theorem codecEvent_holds : Rows.CodecEventSaid :=
  OpenClaim.holds_of_wide 4 Try.f4 rfl rfl rfl rfl rfl rfl rfl ⟨rfl, rfl, rfl, rfl, rfl⟩ rfl rfl rfl rfl rfl (by kernel_rfl) Try.func4 (by kernel_rfl)
    (of_decide_eq_true (by kernel_rfl)) (by unfold Func.isWrapper; first | (rw [if_pos (by decide +kernel)]; kernel_rfl) | (rw [if_neg (by decide +kernel)]; exact ⟨rfl, rfl⟩))
    (fun os started H enc _ => codecEvent_lifted os started H enc)

end Go.Proofs.Ytmibepjfbapbdaa
