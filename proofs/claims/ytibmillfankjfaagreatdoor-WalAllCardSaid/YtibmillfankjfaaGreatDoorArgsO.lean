/- The operations of layer 3 among a law's arguments. -/
import Derived.Test.YtibmillfankjfaaGreatDoorArgs
import Derived.ProofKit
import Derived.Deep.Slices
namespace Go.Proofs.YtibmillfankjfaaGreatDoor
open Go.ChangeShapes Go.WideShapes Go.ChangeAt Go.RowKit Go.Deep
set_option maxRecDepth 100000

def inInt3 (n : Int) : Prop := -9223372036854775808 ≤ n ∧ n ≤ 9223372036854775807

/-- An operation in memory. -/
structure OpW (w : World) (g off : Nat) (k : Nat) (x : Int × Int × List UInt8) : Prop where
  kind : w.cell? ⟨g, off + k * 3, none⟩ = some (.int .i64 x.1)
  num : w.cell? ⟨g, off + k * 3 + 1, none⟩ = some (.int .i64 x.2.1)
  bytes : ∃ u, w.cell? ⟨g, off + k * 3 + 2, none⟩ = some u ∧ Seen w 1 u x.2.2.length (bcells x.2.2) ∧ (∀ b, u.ownBlock = some b → 0 < x.2.2.length → b < w.heap.size)
  fit1 : inInt3 x.1
  fit2 : inInt3 x.2.1

/-- A list of operations in memory. -/
structure OpsW (w : World) (v : Value) (os : List (Int × Int × List UInt8)) : Prop where
  shape : ∃ a cap, v = .slice a os.length cap ∧ os.length ≤ cap ∧ cap ≤ maxLen
  each : ∀ k (h : k < os.length), ∃ g off cap, v = .slice (some ⟨g, off, none⟩) os.length cap ∧ g < w.heap.size ∧ OpW w g off k (os[k])

/-- A []byte among the fields. -/
theorem field_bytes {H : Type} {enc : TypeId × Value → H} {W : World} {u : Value} {n : Nat} {y : DataW H × List MemPlace} (hf : DataW.trod enc Tryz.prog W 0 (fun _ => true) true n 35 [u] = some y) :
    ∃ l : List UInt8, Seen W 1 u l.length (bcells l) ∧ (∀ b, u.ownBlock = some b → 0 < l.length → b < W.heap.size) := by
  rcases open_ints Tryz.underlying35 Tryz.underlying5 Tryz.cellsB hf with ⟨hcs, hx⟩ | ⟨a, len', cap', zs, hcs, _, hl, hm, hz, hx, hc, hw⟩
  · simp only [List.cons.injEq, and_true] at hcs
    subst hcs
    exact ⟨[], Seen.nil _ _, fun b hb => by simp [Value.ownBlock] at hb⟩
  · simp only [List.cons.injEq, and_true] at hcs
    subst hcs
    obtain ⟨l, rfl, h2, h3⟩ := seen_bytes hl hm (by simpa using hz) hc hw
    exact ⟨l, h2, fun b hb h0 => by simp [Value.ownBlock] at hb; subst hb; exact h3 h0⟩

theorem Tryz.cellsOp : Tryz.prog.cellsOf 37 = 3 := by kernel_rfl

/-- An []Op among the arguments. -/
theorem arg_ops3 {H : Type} {enc : TypeId × Value → H} {W : World} {v : Value} {d : DataW H} {ps : List MemPlace} {base : Nat} (hv : Value.okWide Tryz.prog W .any base 22 v) (h : DataW.Trod enc Tryz.prog W 0 (fun _ => true) true 22 v d ps) :
    ∃ os, OpsW W v os := by
  obtain ⟨a0, len, cap, rfl⟩ := okWide_slice Tryz.underlying22 hv
  obtain ⟨fuel, hf⟩ := h
  rcases open_slice Tryz.underlying22 hf with ⟨hcs, hx⟩ | ⟨a, len', cap', m, n, D, Pl, hcs, hb, hl, hm, hmm, hx, hc⟩
  · simp [Value.cells] at hcs
    obtain ⟨rfl, rfl, rfl⟩ := hcs
    exact ⟨[], ⟨none, 0, rfl, by simp, by simp [maxLen]⟩, fun k hk => by simp at hk⟩
  · simp [Value.cells] at hcs
    obtain ⟨rfl, rfl, rfl⟩ := hcs
    have hlm : len ≤ m := by rw [hmm]; split <;> omega
    have hsp : 0 < len → a.spot = none := fun h0 => by
      obtain ⟨cs', h1, _⟩ := hc 0 (by omega)
      rw [Tryz.cellsOp] at h1
      obtain ⟨_, hlen, hcell⟩ := World.cells?_some h1
      have h0' := hcell 0 (by omega)
      rw [List.getElem?_eq_getElem (by omega)] at h0'
      have := World.cell?_spot h0'
      simpa [Addr.add] using this
    have each : ∀ i, i < len → ∃ x : Int × Int × List UInt8, ∃ g off, a = ⟨g, off, none⟩ ∧ g < W.heap.size ∧ OpW W g off i x := by
      intro i hi
      obtain ⟨cs', h1, h2⟩ := hc i (by omega)
      rw [Tryz.cellsOp] at h1
      obtain ⟨_, hlen, hcell⟩ := World.cells?_some h1
      obtain ⟨xs, k, hk, hxy, _, hxl, hff⟩ := DataW.trod_struct Tryz.underlying37 h2
      match xs, hxl, cs', hlen with
      | [y0, y1, y2], _, [v0, v1, v2], _ =>
        have g0 := hff 0 _ rfl
        have g1 := hff 1 _ rfl
        have g2 := hff 2 _ rfl
        have e0 := hcell 0 (by omega)
        have e1 := hcell 1 (by omega)
        have e2 := hcell 2 (by omega)
        rw [add_add] at e0 e1 e2
        have a0 : Tryz.prog.cellsOf 3 = 1 := by kernel_rfl
        have a1 : Tryz.prog.cellsOf 35 = 1 := by kernel_rfl
        simp [a0, a1] at g0 g1 g2
        obtain ⟨n0, f0, _, w0⟩ := DataW.trod_int Tryz.underlying3 g0
        obtain ⟨n1, f1, _, w1⟩ := DataW.trod_int Tryz.underlying3 g1
        obtain ⟨l, q1, q2⟩ := field_bytes (u := v2) g2
        simp at f0 f1 e0 e1 e2
        obtain ⟨g, off, spot⟩ := a
        obtain rfl : spot = none := hsp (by omega)
        simp only [add_off] at e0 e1 e2
        subst f0
        subst f1
        exact ⟨(n0, n1, l), g, off, rfl, World.block_lt_of_cell? _ _ e0, e0, by rw [← e1]; rfl, ⟨v2, by rw [← e2]; rfl, q1, q2⟩, by simpa [inInt3, Lit.wf, show IntKind.i64.min = -9223372036854775808 from rfl, show IntKind.i64.max = 9223372036854775807 from rfl] using w0,
          by simpa [inInt3, Lit.wf, show IntKind.i64.min = -9223372036854775808 from rfl, show IntKind.i64.max = 9223372036854775807 from rfl] using w1⟩
    obtain ⟨f, hf'⟩ := choose_lt each
    refine ⟨(List.range len).map f, ⟨some a, cap, by simp, by simpa using hl, hm⟩, fun k hk => ?_⟩
    have hk' : k < len := by simpa using hk
    obtain ⟨g, off, rfl, h1, h2⟩ := hf' k hk'
    exact ⟨g, off, cap, by simp, h1, by simpa using h2⟩

end Go.Proofs.YtibmillfankjfaaGreatDoor
