/- A []bool among a law's arguments. -/
import Derived.Test.YtflfmcnbojphgaaDoorArgs
import Derived.ProofKit
namespace Go.Proofs.YtflfmcnbojphgaaDoor
open Go.ChangeShapes Go.WideShapes Go.ChangeAt Go.RowKit Go.Deep
set_option maxRecDepth 100000

theorem arg_bools {H : Type} {enc : TypeId × Value → H} {W : World} {v : Value} {d : DataW H} {ps : List MemPlace} {base : Nat} (hv : Value.okWide Tryd.prog W .any base 23 v) (h : DataW.Trod enc Tryd.prog W 0 (fun _ => true) true 23 v d ps) :
    ∃ l : List Bool, Seen W 1 v l.length (bools l) ∧ (∀ b, v.ownBlock = some b → 0 < l.length → b < W.heap.size) := by
  obtain ⟨a0, len, cap, rfl⟩ := okWide_slice Tryd.underlying23 hv
  obtain ⟨fuel, hf⟩ := h
  rcases open_bools Tryd.underlying23 Tryd.underlying4 (by kernel_rfl) hf with ⟨hcs, hx⟩ | ⟨a, len', cap', B, hcs, _, hl, hm, hx, hc⟩
  · simp [Value.cells] at hcs
    obtain ⟨rfl, rfl, rfl⟩ := hcs
    exact ⟨[], Seen.nil _ _, fun b hb => by simp [Value.ownBlock] at hb⟩
  · simp [Value.cells] at hcs
    obtain ⟨rfl, rfl, rfl⟩ := hcs
    obtain ⟨h2, h3⟩ := seen_bools hl hm hc
    exact ⟨(List.range len).map B, by simpa using h2, fun b hb h0 => by simp [Value.ownBlock] at hb; subst hb; exact h3 (by simpa using h0)⟩

end Go.Proofs.YtflfmcnbojphgaaDoor
