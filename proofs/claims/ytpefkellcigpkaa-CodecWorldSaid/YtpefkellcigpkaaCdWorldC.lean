/- CodecWorld (P9.1): for whatever two worlds the law returns true, and its arguments read afterwards as before. No condition but the statement's own reach. -/
import Derived.Test.YtpefkellcigpkaaCdEqW
import Derived.Test.YtpefkellcigpkaaCdCutV
import Derived.Test.YtpefkellcigpkaaCdLawW
import Derived.Test.YtpefkellcigpkaaCdReH
import Derived.Test.YtpefkellcigpkaaCdArgW
import Derived.ProofKit
import Derived.SizedLaws
namespace Go.Proofs.Ytpefkellcigpkaa
open Go.ChangeShapes Go.WideShapes Go.ChangeAt Go.RowKit Go.Deep
set_option maxRecDepth 100000

theorem Try.ownW : ownKnob Try.prog.godebug = none := by kernel_rfl
theorem Try.laidOutW : laidOutB Try.prog = true := by kernel_rfl

theorem codecWorld_lifted (os : Os) (started : os.Started) (H : Type) (enc : TypeId × Value → H) :
    ReturnsInHanded {} Try.checked os 3 .any (Rows.codecWorldSpec.pre6 enc Try.prog Try.f3 Rows.codecWorldRow.domain false) (Rows.codecWorldSpec.post enc Try.prog Try.f3 false true false false) := by
  refine returnsInHanded_of_change_sized (C := Try.checked) Try.ownW started (by kernel_rfl) Try.func3
    (ChangeSpec.witness6 (enc := enc) (C := Try.checked) false ⟨#[], #[.agg #[.int .i64 0, .int .i64 0, .int .i64 0, .slice none 0 0, .slice none 0 0, .slice none 0 0, .slice none 0 0, .slice none 0 0, .slice none 0 0], .agg #[.int .i64 0, .int .i64 0, .int .i64 0, .slice none 0 0, .slice none 0 0, .slice none 0 0, .slice none 0 0, .slice none 0 0, .slice none 0 0]], []⟩ 8 (by kernel_rfl) (by kernel_rfl) (by kernel_rfl) (by kernel_rfl)) ?_
  intro W base args ds gs before hval0 hW hcnd hwt _
  have hW' := hW
  obtain ⟨p, q, hA0, hV, rfl, hfz, hnd⟩ := hW
  have hA : DataW.TrodAll enc Try.prog W 0 (fun _ => true) true Try.f3.params.toList args.toList ds p := hA0
  have hA1 := hA
  have hval : ∀ (j : Nat) t v, Try.f3.params[j]? = some t → args[j]? = some v → Value.okWide Try.prog W .any base t v := hval0
  have hwt1 : ∀ q ∈ DataW.weightsEach Try.prog (Try.f3.params.toList ++ Rows.codecWorldSpec.plain.varTypes Try.prog) (ds ++ gs), q ≤ reachBytes := fun q hq => by simpa using List.all_eq_true.1 hwt q hq
  rw [Try.params3] at hA hval hwt1
  obtain ⟨v0, v1, d0, d1, p0, p1, rfl, rfl, rfl, h0, h1⟩ := trodAll_two hA
  obtain ⟨rfl, rfl⟩ := trodVars_none hV
  have hwx : ∀ q ∈ d0.weights Try.prog 29, q ≤ reachBytes := fun q hq => hwt1 q (DataW.weights_mem_each (j := 0) rfl rfl q hq)
  have hwy : ∀ q ∈ d1.weights Try.prog 29, q ≤ reachBytes := fun q hq => hwt1 q (DataW.weights_mem_each (j := 1) rfl rfl q hq)
  clear hwt hwt1
  obtain ⟨f0, h0⟩ := h0
  obtain ⟨f1, h1⟩ := h1
  obtain ⟨x, hx, hrx⟩ := Cd.tew_World h0 hwx
  obtain ⟨y, hy, hry⟩ := Cd.tew_World h1 hwy
  obtain ⟨⟨c0⟩, rfl, -⟩ := okWide_struct Try.underlying29 (hval 0 29 v0 rfl rfl)
  obtain ⟨⟨c1⟩, rfl, -⟩ := okWide_struct Try.underlying29 (hval 1 29 v1 rfl rfl)
  obtain ⟨g1, g2, g3, g4, g5, g6, l1, l2, l3, l4, l5, l6, ec0⟩ := hx
  obtain ⟨k1, k2, k3, k4, k5, k6, m1, m2, m3, m4, m5, m6, ec1⟩ := hy
  have ec0' : c0 = _ := ec0
  have ec1' : c1 = _ := ec1
  clear hA0 hval0 ec0 ec1 hval
  subst ec0' ec1'
  have hlt : ∀ x ∈ p0 ++ p1, x.block < W.heap.size := fun x hx => hW'.lt x (List.mem_append_left _ hx)
  refine (Cd.codecWorld_any Cd.eqWorld_any Cd.cutW_any (fun hx hy => Cd.rEq_any hx hy) ⟨g1, g2, g3, g4, g5, g6, l1, l2, l3, l4, l5, l6, rfl⟩ hrx ⟨k1, k2, k3, k4, k5, k6, m1, m2, m3, m4, m5, m6, rfl⟩ hry).mono fun e W' ⟨he, hk⟩ => ?_
  subst he
  refine ⟨_, rfl, _, _, _, [], p0 ++ p1, [], hW', trodAll_cons_mk (shut_bool Try.underlying4 _) trodAll_mk0, ?_, rfl, hk.below0.frame _, fun h => by cases h⟩
  refine trodAll_stays Try.laidOutW hk.below0 _ (fun t ht => ?_) _ _ _ hA1 hlt
  rw [Try.params3] at ht
  simp only [List.mem_cons, List.not_mem_nil, or_false] at ht
  rcases ht with rfl | rfl <;> exact ⟨by kernel_rfl, of_decide_eq_true (by kernel_rfl)⟩

theorem codecWorld_holds : Rows.CodecWorldSaid :=
  OpenClaim.holds_of_wide 3 Try.f3 rfl rfl rfl rfl rfl rfl rfl ⟨rfl, rfl, rfl, rfl, rfl⟩ rfl rfl rfl rfl rfl (by kernel_rfl) Try.func3 (by kernel_rfl)
    (of_decide_eq_true (by kernel_rfl)) (by unfold Func.isWrapper; first | (rw [if_pos (by decide +kernel)]; kernel_rfl) | (rw [if_neg (by decide +kernel)]; exact ⟨rfl, rfl⟩))
    (fun os started H enc _ => codecWorld_lifted os started H enc)

end Go.Proofs.Ytpefkellcigpkaa
