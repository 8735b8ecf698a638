/- DirAll (P6.1): for every number and every list of operations the law returns true, and its arguments read afterwards as before. No condition. -/
import Derived.Test.YtejeadccpigepaaDirAll
import Derived.ProofKit
import Derived.Deep.Slices
namespace Go.Proofs.Ytejeadccpigepaa
open Go.ChangeShapes Go.WideShapes Go.ChangeAt Go.RowKit Go.Deep
set_option maxRecDepth 100000

theorem Try.own6 : ownKnob Try.prog.godebug = none := by kernel_rfl
theorem Try.laidOut6 : laidOutB Try.prog = true := by kernel_rfl
theorem Try.cellsOp6 : Try.prog.cellsOf 33 = 3 := by kernel_rfl

theorem odcells_length (l : List (Int × Int × ByteArray)) : (Dir.odcells l).length = l.length * 3 := by
  induction l with
  | nil => rfl
  | cons x r ih =>
    have e : Dir.odcells (x :: r) = [Value.int .i64 x.1, .int .i64 x.2.1, .string x.2.2] ++ Dir.odcells r := rfl
    rw [e, List.length_append, ih]
    simp; omega

/-- An []Op among the arguments. -/
theorem arg_ops6 {H : Type} {enc : TypeId × Value → H} {W : World} {v : Value} {d : DataW H} {ps : List MemPlace} {base : Nat} (hv : Value.okWide Try.prog W .any base 22 v) (h : DataW.Trod enc Try.prog W 0 (fun _ => true) true 22 v d ps) :
    ∃ os, Dir.OdsW W v os := by
  obtain ⟨a0, len, cap, rfl⟩ := okWide_slice Try.underlying22 hv
  obtain ⟨fuel, hf⟩ := h
  rcases open_slice Try.underlying22 hf with ⟨hcs, hx⟩ | ⟨a, len', cap', m, n, D, Pl, hcs, hb, hl, hm, hmm, hx, hc⟩
  · simp [Value.cells] at hcs
    obtain ⟨rfl, rfl, rfl⟩ := hcs
    exact ⟨[], ⟨Seen.nil _ _, fun x hx => by simp at hx⟩⟩
  · simp [Value.cells] at hcs
    obtain ⟨rfl, rfl, rfl⟩ := hcs
    have hlm : len ≤ m := by rw [hmm]; split <;> omega
    have each : ∀ i, i < len → ∃ x : Int × Int × ByteArray, W.cell? (a.add (i * 3)) = some (.int .i64 x.1) ∧ W.cell? (a.add (i * 3 + 1)) = some (.int .i64 x.2.1) ∧ W.cell? (a.add (i * 3 + 2)) = some (.string x.2.2) ∧ Dir.inI64 x.1 ∧ Dir.inI64 x.2.1 := by
      intro i hi
      obtain ⟨cs', h1, h2⟩ := hc i (by omega)
      rw [Try.cellsOp6] at h1
      obtain ⟨_, hlen, hcell⟩ := World.cells?_some h1
      obtain ⟨xs, k, hk, hxy, _, hxl, hff⟩ := DataW.trod_struct Try.underlying33 h2
      match xs, hxl, cs', hlen with
      | [y0, y1, y2], _, [v0, v1, v2], _ =>
        have g0 := hff 0 _ rfl
        have g1 := hff 1 _ rfl
        have g2 := hff 2 _ rfl
        have e0 := hcell 0 (by omega)
        have e1 := hcell 1 (by omega)
        have e2 := hcell 2 (by omega)
        rw [add_add] at e0 e1 e2
        have a0 : Try.prog.cellsOf 3 = 1 := by kernel_rfl
        have a1 : Try.prog.cellsOf 9 = 1 := by kernel_rfl
        simp [a0, a1] at g0 g1 g2
        obtain ⟨n0, f0, _, w0⟩ := DataW.trod_int Try.underlying3 g0
        obtain ⟨n1, f1, _, w1⟩ := DataW.trod_int Try.underlying3 g1
        obtain ⟨s2, f2, _⟩ := DataW.trod_string Try.underlying9 g2
        simp at f0 f1 f2 e0 e1 e2
        subst f0 f1 f2
        exact ⟨(n0, n1, s2), e0, e1, e2, by simpa [Dir.inI64, Lit.wf, show IntKind.i64.min = -9223372036854775808 from rfl, show IntKind.i64.max = 9223372036854775807 from rfl] using w0,
          by simpa [Dir.inI64, Lit.wf, show IntKind.i64.min = -9223372036854775808 from rfl, show IntKind.i64.max = 9223372036854775807 from rfl] using w1⟩
    obtain ⟨f, hf'⟩ := choose_lt each
    refine ⟨(List.range len).map f, ⟨⟨by rw [odcells_length], some a, cap, by simp, by simpa using hl, hm, ?_⟩, fun x hx => ?_⟩⟩
    · rcases Nat.eq_zero_or_pos len with h0 | h0
      · exact .inl (by simpa using h0)
      right
      obtain ⟨b, off, spot⟩ := a
      have c0 := (hf' 0 (by omega)).1
      have hspot : spot = none := by simpa [Addr.add] using World.cell?_spot c0
      subst hspot
      refine ⟨b, off, rfl, by simpa [Addr.add] using World.block_lt_of_cell? _ _ c0, fun j u hu => ?_⟩
      have hj : j < len * 3 := by
        have := (List.getElem?_eq_some_iff.1 hu).1
        rw [odcells_length] at this
        simpa using this
      have hg := Dir.odcells_get ((List.range len).map f) (j / 3) (by simp; omega)
      obtain ⟨q0, q1, q2, _, _⟩ := hf' (j / 3) (by omega)
      simp only [List.getElem_map, List.getElem_range] at hg
      rw [add_off] at q0 q1 q2
      rcases (by omega : j % 3 = 0 ∨ j % 3 = 1 ∨ j % 3 = 2) with hm2 | hm2 | hm2
      · have e : j / 3 * 3 = j := by omega
        rw [e] at hg q0
        rw [hg.1] at hu
        rw [q0]; exact hu
      · have e : j / 3 * 3 + 1 = j := by omega
        rw [e] at hg q1
        rw [hg.2.1] at hu
        rw [q1]; exact hu
      · have e : j / 3 * 3 + 2 = j := by omega
        rw [e] at hg q2
        rw [hg.2.2] at hu
        rw [q2]; exact hu
    · obtain ⟨i, hi, rfl⟩ := List.mem_map.1 hx
      exact (hf' i (List.mem_range.1 hi)).2.2.2

theorem dirAll_lifted (os : Os) (started : os.Started) (H : Type) (enc : TypeId × Value → H) :
    ReturnsInHanded {} Try.checked os 3 .any (Rows.dirAllSpec.pre6 enc Try.prog Try.f3 Rows.dirAllRow.domain false) (Rows.dirAllSpec.post enc Try.prog Try.f3 false true false false) := by
  refine returnsInHanded_of_change (C := Try.checked) Try.own6 started (by kernel_rfl) Try.func3
    (ChangeSpec.witness6 (enc := enc) (C := Try.checked) false ⟨#[], #[.int .i64 0, .slice none 0 0], []⟩ 8 (by kernel_rfl) (by kernel_rfl) (by kernel_rfl) (by kernel_rfl)) ?_
  intro W base args ds gs before hval0 hW hcnd _
  have hval : ∀ (j : Nat) t v, Try.f3.params[j]? = some t → args[j]? = some v → Value.okWide Try.prog W .any base t v := hval0
  have hW' := hW
  obtain ⟨p, q, hA0, hV, rfl, hfz, hnd⟩ := hW
  have hA : DataW.TrodAll enc Try.prog W 0 (fun _ => true) true Try.f3.params.toList args.toList ds p := hA0
  have hA1 := hA
  rw [Try.params3] at hA hval
  obtain ⟨v0, v1, d0, d1, p0, p1, rfl, rfl, rfl, h0, h1⟩ := trodAll_two hA
  obtain ⟨rfl, rfl⟩ := trodVars_none hV
  obtain ⟨n, rfl, rfl, rfl, w0⟩ := open_int Try.underlying3 (hval 0 3 v0 rfl rfl) h0
  obtain ⟨ops, hs⟩ := arg_ops6 (hval 1 22 v1 rfl rfl) h1
  have hlt : ∀ x ∈ [] ++ p1, x.block < W.heap.size := fun x hx => hW'.lt x (List.mem_append_left _ hx)
  clear hA0 hval0
  refine (Dir.dirAll_any n hs (fun w1 p s m E nv kv nx hd h => Dir.listed_any hd h)).mono fun e W' ⟨he, hk⟩ => ?_
  subst he
  refine ⟨_, rfl, _, _, _, [], [] ++ p1, [], hW', trodAll_cons_mk (shut_bool Try.underlying4 _) trodAll_mk0, ?_, rfl, hk.below0.frame _, fun h => by cases h⟩
  refine trodAll_stays Try.laidOut6 hk.below0 _ (fun t ht => ?_) _ _ _ hA1 hlt
  rw [Try.params3] at ht
  simp only [List.mem_cons, List.not_mem_nil, or_false] at ht
  rcases ht with rfl | rfl <;> exact ⟨by kernel_rfl, of_decide_eq_true (by kernel_rfl)⟩

theorem dirAll_holds : Rows.DirAllSaid :=
  OpenClaim.holds_of_wide 3 Try.f3 rfl rfl rfl rfl rfl rfl rfl ⟨rfl, rfl, rfl, rfl, rfl⟩ rfl rfl rfl rfl rfl (by kernel_rfl) Try.func3 (by kernel_rfl)
    (of_decide_eq_true (by kernel_rfl)) (by unfold Func.isWrapper; first | (rw [if_pos (by decide +kernel)]; kernel_rfl) | (rw [if_neg (by decide +kernel)]; exact ⟨rfl, rfl⟩))
    (fun os started H enc _ => dirAll_lifted os started H enc)

end Go.Proofs.Ytejeadccpigepaa
