/- CodecBytes (P9.2): for whatever world, event, place, byte, rest and cut the law returns true, and its arguments read afterwards as before. No condition but the statement's own reach. -/
import Derived.Test.YtmibepjfbapbdaaCdEqW
import Derived.Test.YtmibepjfbapbdaaCdCutV
import Derived.Test.YtmibepjfbapbdaaCdLawB
import Derived.Test.YtmibepjfbapbdaaCdArgW
import Derived.ProofKit
import Derived.SizedLaws
namespace Go.Proofs.Ytmibepjfbapbdaa
open Go.ChangeShapes Go.WideShapes Go.ChangeAt Go.RowKit Go.Deep
set_option maxRecDepth 100000

theorem Try.ownB : ownKnob Try.prog.godebug = none := by kernel_rfl
theorem Try.laidOutB : laidOutB Try.prog = true := by kernel_rfl

theorem codecBytes_lifted (os : Os) (started : os.Started) (H : Type) (enc : TypeId × Value → H) :
    ReturnsInHanded {} Try.checked os 5 .any (Rows.codecBytesSpec.pre6 enc Try.prog Try.f5 Rows.codecBytesRow.domain false) (Rows.codecBytesSpec.post enc Try.prog Try.f5 false true false false) := by
  refine returnsInHanded_of_change_sized (C := Try.checked) Try.ownB started (by kernel_rfl) Try.func5
    (ChangeSpec.witness6 (enc := enc) (C := Try.checked) false ⟨#[], #[.agg #[.int .i64 0, .int .i64 0, .int .i64 0, .slice none 0 0, .slice none 0 0, .slice none 0 0, .slice none 0 0, .slice none 0 0, .slice none 0 0], .agg #[.int .i64 0, .string ⟨#[]⟩, .string ⟨#[]⟩, .slice none 0 0], .int .i64 0, .int .u8 0, .slice none 0 0, .int .i64 0], []⟩ 8 (by kernel_rfl) (by kernel_rfl) (by kernel_rfl) (by kernel_rfl)) ?_
  intro W base args ds gs before hval0 hW hcnd hwt _
  have hW' := hW
  obtain ⟨p, q, hA0, hV, rfl, hfz, hnd⟩ := hW
  have hA : DataW.TrodAll enc Try.prog W 0 (fun _ => true) true Try.f5.params.toList args.toList ds p := hA0
  have hA1 := hA
  have hval : ∀ (j : Nat) t v, Try.f5.params[j]? = some t → args[j]? = some v → Value.okWide Try.prog W .any base t v := hval0
  have hwt1 : ∀ q ∈ DataW.weightsEach Try.prog (Try.f5.params.toList ++ Rows.codecBytesSpec.plain.varTypes Try.prog) (ds ++ gs), q ≤ reachBytes := fun q hq => by simpa using List.all_eq_true.1 hwt q hq
  rw [Try.params5] at hA hval hwt1
  obtain ⟨v0, r0, d0, e0, p0, q0, hargs, rfl, rfl, h0, hA2⟩ := trodAll_cons hA
  obtain ⟨v1, r1, d1, e1, p1, q1, rfl, rfl, rfl, h1, hA3⟩ := trodAll_cons hA2
  obtain ⟨v2, r2, d2, e2, p2, q2, rfl, rfl, rfl, h2, hA4⟩ := trodAll_cons hA3
  obtain ⟨v3, r3, d3, e3, p3, q3, rfl, rfl, rfl, h3, hA5⟩ := trodAll_cons hA4
  obtain ⟨v4, r4, d4, e4, p4, q4, rfl, rfl, rfl, h4, hA6⟩ := trodAll_cons hA5
  obtain ⟨v5, r5, d5, e5, p5, q5, rfl, rfl, rfl, h5, hA7⟩ := trodAll_cons hA6
  obtain ⟨rfl, rfl, rfl⟩ := trodAll_nil hA7
  obtain rfl : args = #[v0, v1, v2, v3, v4, v5] := by cases args; simp_all
  obtain ⟨rfl, rfl⟩ := trodVars_none hV
  have hwx : ∀ q ∈ d0.weights Try.prog 29, q ≤ reachBytes := fun q hq => hwt1 q (DataW.weights_mem_each (j := 0) rfl rfl q hq)
  clear hargs hA2 hA3 hA4 hA5 hA6 hA7 hwt hwt1
  obtain ⟨f0, h0⟩ := h0
  obtain ⟨f1, h1⟩ := h1
  obtain ⟨x, hx, hrx⟩ := Cd.tew_World h0 hwx
  obtain ⟨y, ⟨dv, hl, hc2⟩, hr2⟩ := Cd.te_Event h1
  obtain ⟨n2, rfl, rfl, rfl, hw2⟩ := open_int Try.underlying3 (hval 2 3 v2 rfl rfl) h2
  obtain ⟨n3, rfl, rfl, rfl, hw3⟩ := open_int Try.underlying5 (hval 3 5 v3 rfl rfl) h3
  obtain ⟨rb, hs4, _⟩ := arg_bytes (hval 4 33 v4 rfl rfl) h4
  obtain ⟨n5, rfl, rfl, rfl, hw5⟩ := open_int Try.underlying3 (hval 5 3 v5 rfl rfl) h5
  obtain ⟨⟨c0⟩, rfl, -⟩ := okWide_struct Try.underlying29 (hval 0 29 v0 rfl rfl)
  obtain ⟨⟨c1⟩, rfl, -⟩ := okWide_struct Try.underlying44 (hval 1 44 v1 rfl rfl)
  obtain ⟨g1, g2, g3, g4, g5, g6, l1, l2, l3, l4, l5, l6, ec0⟩ := hx
  have ec1 : c1 = _ := hc2
  have ec0' : c0 = _ := ec0
  clear hA0 hval0 hc2 ec0 hval
  subst ec0' ec1
  have hlt : ∀ x ∈ p0 ++ (p1 ++ ([] ++ ([] ++ (p4 ++ ([] ++ []))))), x.block < W.heap.size := fun x hx => hW'.lt x (List.mem_append_left _ hx)
  simp [Lit.wf, show IntKind.u8.min = 0 from rfl, show IntKind.u8.max = 255 from rfl] at hw3
  simp [Lit.wf, show IntKind.i64.min = -9223372036854775808 from rfl, show IntKind.i64.max = 9223372036854775807 from rfl] at hw2 hw5
  obtain ⟨xb, rfl⟩ : ∃ xb : UInt8, n3 = (xb.toNat : Int) := ⟨UInt8.ofNat n3.toNat, by rw [UInt8.toNat_ofNat']; omega⟩
  obtain ⟨k1, s1, t1, m1⟩ := y
  refine (Cd.codecBytes_any Cd.eqWorld_any Cd.cutW_any ⟨g1, g2, g3, g4, g5, g6, l1, l2, l3, l4, l5, l6, rfl⟩ hrx hl hr2 hs4 (at_ := n2) (cut := n5) (by unfold Cd.okN; omega) (by unfold Cd.okN; omega) (xb := xb)).mono fun e W' ⟨he, hk⟩ => ?_
  subst he
  refine ⟨_, rfl, _, _, _, [], p0 ++ (p1 ++ ([] ++ ([] ++ (p4 ++ ([] ++ []))))), [], hW', trodAll_cons_mk (shut_bool Try.underlying4 _) trodAll_mk0, ?_, rfl, hk.below0.frame _, fun h => by cases h⟩
  refine trodAll_stays Try.laidOutB hk.below0 _ (fun t ht => ?_) _ _ _ hA1 hlt
  rw [Try.params5] at ht
  simp only [List.mem_cons, List.not_mem_nil, or_false] at ht
  rcases ht with rfl | rfl | rfl | rfl | rfl | rfl <;> exact ⟨by kernel_rfl, of_decide_eq_true (by kernel_rfl)⟩

theorem codecBytes_holds : Rows.CodecBytesSaid :=
  OpenClaim.holds_of_wide 5 Try.f5 rfl rfl rfl rfl rfl rfl rfl ⟨rfl, rfl, rfl, rfl, rfl⟩ rfl rfl rfl rfl rfl (by kernel_rfl) Try.func5 (by kernel_rfl)
    (of_decide_eq_true (by kernel_rfl)) (by unfold Func.isWrapper; first | (rw [if_pos (by decide +kernel)]; kernel_rfl) | (rw [if_neg (by decide +kernel)]; exact ⟨rfl, rfl⟩))
    (fun os started H enc _ => codecBytes_lifted os started H enc)

end Go.Proofs.Ytmibepjfbapbdaa
