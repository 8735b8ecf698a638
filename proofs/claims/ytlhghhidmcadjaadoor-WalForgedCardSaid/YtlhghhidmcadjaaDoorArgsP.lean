/- A [][]byte, and a []int, among a law's arguments. -/
import Derived.Test.YtlhghhidmcadjaaDoorCrc
import Derived.Test.YtlhghhidmcadjaaDoorArgs
import Derived.ProofKit
import Derived.Deep.Matrix
namespace Go.Proofs.YtlhghhidmcadjaaDoor
open Go.ChangeShapes Go.WideShapes Go.ChangeAt Go.RowKit Go.Deep

set_option maxRecDepth 100000

/-- A [][]byte among the arguments. -/
theorem arg_parts {H : Type} {enc : TypeId × Value → H} {W : World} {v : Value} {d : DataW H} {ps : List MemPlace} {base : Nat} (hv : Value.okWide Tryd.prog W .any base 34 v) (h : DataW.Trod enc Tryd.prog W 0 (fun _ => true) true 34 v d ps) :
    ∃ ls : List (List UInt8), Parts W v ls := by
  obtain ⟨a0, len, cap, rfl⟩ := okWide_slice Tryd.underlying34 hv
  obtain ⟨fuel, hf⟩ := h
  rcases open_int_rows Tryd.underlying34 Tryd.underlying40 Tryd.underlying5 (by kernel_rfl) Tryd.cellsB hf with ⟨hcs, hx⟩ | ⟨a, len', cap', A, L, C, Z, hcs, _, hl, hm, hx, hc⟩
  · simp [Value.cells] at hcs
    obtain ⟨rfl, rfl, rfl⟩ := hcs
    exact ⟨[], Parts.nil _⟩
  · simp [Value.cells] at hcs
    obtain ⟨rfl, rfl, rfl⟩ := hcs
    have each : ∀ r, r < len → ∃ l : List UInt8, Seen W 1 (.slice (A r) (L r) (C r)) l.length (bcells l) := by
      intro r hr
      obtain ⟨_, h1, h2, h3, h4, h5, h6⟩ := hc r (by omega)
      cases hA : A r with
      | none =>
        have := h5 hA
        have hL : L r = 0 := by omega
        rw [this, hL]
        exact ⟨[], Seen.nil _ _⟩
      | some a' =>
        obtain ⟨l, e, hs, _⟩ := seen_bytes h1 h2 h3 (fun i hi => (h6 a' hA).2 i (by omega)) h4
        exact ⟨l, by rw [e]; exact hs⟩
    obtain ⟨f, hf'⟩ := choose_lt each
    refine ⟨(List.range len).map f, (List.range len).map (fun r => .slice (A r) (L r) (C r)), ⟨by simp, some a, cap, by simp, by simpa using hl, hm, ?_⟩, fun j hj => ?_⟩
    · rcases Nat.eq_zero_or_pos len with h0 | h0
      · exact .inl (by simpa using h0)
      right
      obtain ⟨b, off, spot⟩ := a
      have c0 := (hc 0 (by omega)).1
      have hspot : spot = none := by simpa [Addr.add] using World.cell?_spot c0
      subst hspot
      refine ⟨b, off, rfl, by simpa [Addr.add] using World.block_lt_of_cell? _ _ c0, fun j u hu => ?_⟩
      have hj : j < len := by
        have := (List.getElem?_eq_some_iff.1 hu).1
        simpa using this
      have := (hc j (by omega)).1
      rw [add_off] at this
      rw [this]
      simp [hj] at hu
      rw [hu]
    · have hj' : j < len := by simpa using hj
      refine ⟨.slice (A j) (L j) (C j), by simp [hj'], ?_⟩
      simpa using hf' j hj'

def icells (zs : List Int) : List Value := zs.map fun n => Value.int .i64 n

/-- A []int among the arguments. -/
theorem arg_ints {H : Type} {enc : TypeId × Value → H} {W : World} {v : Value} {d : DataW H} {ps : List MemPlace} {base : Nat} (hv : Value.okWide Tryd.prog W .any base 50 v) (h : DataW.Trod enc Tryd.prog W 0 (fun _ => true) true 50 v d ps) :
    ∃ l : List Int, Seen W 1 v l.length (icells l) ∧ ∀ n ∈ l, -9223372036854775808 ≤ n ∧ n ≤ 9223372036854775807 := by
  obtain ⟨a0, len, cap, rfl⟩ := okWide_slice Tryd.underlying50 hv
  obtain ⟨fuel, hf⟩ := h
  rcases open_ints Tryd.underlying50 Tryd.underlying3 (by kernel_rfl) hf with ⟨hcs, hx⟩ | ⟨a, len', cap', zs, hcs, _, hl, hm, hz, hx, hc, hw⟩
  · simp [Value.cells] at hcs
    obtain ⟨rfl, rfl, rfl⟩ := hcs
    exact ⟨[], Seen.nil _ _, fun n hn => by simp at hn⟩
  · simp [Value.cells] at hcs
    obtain ⟨rfl, rfl, rfl⟩ := hcs
    have hz' : zs.length = cap := by simpa using hz
    refine ⟨zs.take len, ⟨by simp [icells], some a, cap, by simp; omega, by simp; omega, hm, ?_⟩, fun n hn => ?_⟩
    · rcases Nat.eq_zero_or_pos len with h0 | h0
      · exact .inl (by simp [h0])
      right
      obtain ⟨b, off, spot⟩ := a
      have hspot : spot = none := by simpa [Addr.add] using World.cell?_spot (hc 0 (by omega))
      subst hspot
      refine ⟨b, off, rfl, by simpa [Addr.add] using World.block_lt_of_cell? _ _ (hc 0 (by omega)), fun j u hu => ?_⟩
      have hj : j < len := by
        have := (List.getElem?_eq_some_iff.1 hu).1
        simp [icells] at this; omega
      have := hc j (by omega)
      rw [add_off] at this
      rw [this]
      have hzj : j < zs.length := by omega
      simp only [icells, List.getElem?_map, List.getElem?_take, hj, if_true, List.getElem?_eq_getElem hzj, Option.map_some, Option.some.injEq] at hu
      rw [← hu, List.getD_eq_getElem?_getD, List.getElem?_eq_getElem hzj]
      rfl
    · have hwf := hw n (List.mem_of_mem_take hn)
      simpa [Lit.wf, show IntKind.i64.min = -9223372036854775808 from rfl, show IntKind.i64.max = 9223372036854775807 from rfl] using hwf

end Go.Proofs.YtlhghhidmcadjaaDoor
