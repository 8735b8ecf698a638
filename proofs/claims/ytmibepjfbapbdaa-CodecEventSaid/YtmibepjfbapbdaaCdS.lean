/- codec: things behind a buffer. -/
import Derived.Test.YtmibepjfbapbdaaCdE
import Derived.Test.YtmibepjfbapbdaaCdW
namespace Go.Proofs.Ytmibepjfbapbdaa.Cd
open Go.RowKit Go.Proofs.Ytmibepjfbapbdaa
set_option maxRecDepth 100000

theorem Try.infoThing : (Try.prog.info? 61).map (·.size) = some 5 := by kernel_rfl
theorem Try.infoMob : (Try.prog.info? 54).map (·.size) = some 4 := by kernel_rfl
theorem Try.infoTill : (Try.prog.info? 81).map (·.size) = some 2 := by kernel_rfl
theorem Try.infoLot : (Try.prog.info? 67).map (·.size) = some 7 := by kernel_rfl
theorem Try.infoHouse : (Try.prog.info? 65).map (·.size) = some 4 := by kernel_rfl
theorem Try.infoChar : (Try.prog.info? 58).map (·.size) = some 10 := by kernel_rfl

theorem Out.box {N : Nat → Prop} {w0 w wi : World} {v vi : Value} {bs bsi : List UInt8} {C : Array Value} {t : TypeId} (h0 : Out N w0 w v bs) (h : Out (own v) (w.alloc (.cells C t)) wi vi bsi) (j : Nat) {u : Value} (hu : C[j]? = some u) : wi.cell? ⟨w.heap.size, j, none⟩ = some u := by
  have h1 : wi.heap[w.heap.size]? = some (.cells C t (0, 0)) := (h.keep.block _ (by rw [World.size_alloc]; omega) (fun e => by have := h0.lt e; omega)).trans (heap_alloc_new w _)
  rw [cell_of_row _ _ _ _ _ _ h1]; exact hu

/-- What a struct names, behind puts of its fields. -/
theorem Out.within {M : Type} {E : El M} {N Pb : Nat → Prop} {w0 w wi : World} {v vi lv : Value} {bs bsi : List UInt8} {o : Obj} {l : List M} (_ : Out N w0 w v bs) (h : Out (own v) (w.alloc o) wi vi bsi) (hP : ∀ g, Pb g → g < w.heap.size ∧ v.ownBlock ≠ some g) (hL : LAt E Pb w lv l) :
    (∀ g, Pb g → g < wi.heap.size ∧ vi.ownBlock ≠ some g) ∧ LAt E Pb wi lv l := by
  have hP1 : ∀ g, Pb g → g < (w.alloc o).heap.size ∧ v.ownBlock ≠ some g := fun g hg => ⟨by rw [World.size_alloc]; have := (hP g hg).1; omega, (hP g hg).2⟩
  exact ⟨h.apart hP1, h.laid hP1 (hL.keep ((Keep.refl (fun _ => False) w).alloc o) (fun _ _ _ h => h))⟩

end Go.Proofs.Ytmibepjfbapbdaa.Cd
