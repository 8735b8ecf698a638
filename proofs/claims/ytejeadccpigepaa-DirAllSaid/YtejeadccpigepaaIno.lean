/- Files on blocks: the four ways to ask the store. -/
import Derived.Test.YtejeadccpigepaaAsk
import Derived.Deep.RegionHeld3
import Derived.Laws.Rows
namespace Go.Proofs.Ytejeadccpigepaa.Ino
open Go.RowKit Go.Maps Go.Proofs.Ytejeadccpigepaa
set_option maxRecDepth 100000

theorem Row.range {w : World} {e : TypeId} {g o n c : Nat} {xs : List Value} (h : Row w e 1 (.slice (some ⟨g, o, none⟩) n c) n xs) : w.rangeAt g o xs := by
  intro j v hv
  have hj : j < xs.length := (List.getElem?_eq_some_iff.1 hv).1
  rw [h.cellAt j (by have := h.1; omega)]; exact hv

theorem IsSto.len {w : World} {F : Nat → Prop} {s b : Nat} {D : DataW Unit} {S : Sto} (h : IsSto w F s b D S) {n : Nat} {l : List UInt8} (hn : S.f n = some l) : l.length = 512 := by
  have := h.each n
  rw [hn] at this
  exact this.2.1


theorem Try.arrBlk (g o c : Nat) (w : World) : (Instr.arrayAt 85 (.slice (some ⟨g, o, none⟩) 512 c)).run Try.prog w = .ok (.pointer (some ⟨g, o, none⟩)) w := by kernel_rfl

theorem i64_nat (n : Nat) (h : n < 1000000) : IntKind.i64.wrap (n : Int) = (n : Int) := by
  rw [IntKind.wrap_i64]; omega

theorem Try.mGet (n : Nat) (v : Value) (w : World) : (Go.method (n + 1) 24 v "Get").run Try.prog w = .ok (96, v) w := by kernel_rfl
theorem Try.mPut (n : Nat) (v : Value) (w : World) : (Go.method (n + 1) 24 v "Put").run Try.prog w = .ok (97, v) w := by kernel_rfl
theorem Try.mTake (n : Nat) (v : Value) (w : World) : (Go.method (n + 1) 24 v "Take").run Try.prog w = .ok (98, v) w := by kernel_rfl
theorem Try.mFree (n : Nat) (v : Value) (w : World) : (Go.method (n + 1) 24 v "Free").run Try.prog w = .ok (95, v) w := by kernel_rfl

set_option maxHeartbeats 1000000 in
theorem getC_any {w : World} {F : Nat → Prop} {p s : Nat} {S : Sto} {size : Nat} {T : List Nat} (h : IsFile w F p s S size T) {n : Nat} {l : List UInt8} (hn : S.f n = some l) {bf bn bb : Nat} {Z : Array Value} (hZ : Z.size = 512)
    (h1 : w.heap[bf]? = some (.cells #[.pointer (some ⟨p, 0, none⟩)] 28 (0, 0))) (h2 : w.heap[bn]? = some (.cells #[.int .u32 (n : Int)] 54 (0, 0))) (h3 : w.heap[bb]? = some (.cells Z 85 (0, 0))) :
    Calls Try.prog 49 #[.pointer (some ⟨bf, 0, none⟩), .pointer (some ⟨bn, 0, none⟩), .pointer (some ⟨bb, 0, none⟩)] w fun e w' => e = .returned .nilIface ∧ w'.heap[bb]? = some (.cells (blkC l) 85 (0, 0)) ∧ Keep (fun x => x = bb) w w' := by
  obtain ⟨b, D, hs⟩ := h.sto
  have c0 := h.cell 0
  simp only [List.getElem?_cons_zero] at c0
  have d1 : w.cell? ⟨bf, 0, none⟩ = some (.pointer (some ⟨p, 0, none⟩)) := (cell_of_row _ _ _ _ _ _ h1).trans rfl
  have d2 : w.cell? ⟨bn, 0, none⟩ = some (.int .u32 (n : Int)) := (cell_of_row _ _ _ _ _ _ h2).trans rfl
  have hsm := hs.small n (by rw [hn]; simp)
  have hnx := hs.nxt
  have hl := hs.len hn
  have HS := Lib.hid hs; have H3 := Lib.hid h3
  have HSD : Hid (IsSto w.drew F s b D S) := Lib.hid (hs.keep0 (Keep.refl (fun _ => False) w).drew)
  have hmth := Try.mGet
  have hwr := i64_nat n (by omega)
  clear h hs h1 h2 h3
  go_enter Try.func49, Try.ntmps49
  go_wp2_with fail
  go_region_held3 (fun w' => w'.cell? ⟨bf, 0, none⟩ = some (.pointer (some ⟨p, 0, none⟩)) ∧ w'.cell? ⟨bn, 0, none⟩ = some (.int .u32 (n : Int)) ∧ w'.cell? ⟨p, 0, none⟩ = some (.iface 24 (.pointer (some ⟨s, 0, none⟩)))) (go_keep) (first | (go_at_call 96; refine (sget_any HSD.out hn).mono ?_; rintro e w1 ⟨g, o, c, rfl, hr, hk⟩; have HR := Lib.hid hr; have HK := Lib.hid hk; have q1 : w1.cell? ⟨bf, 0, none⟩ = some (.pointer (some ⟨p, 0, none⟩)) := (hk.cell (b := bf) (World.block_lt_of_cell? _ _ d1) (fun h => h) 0).trans d1; have q2 : w1.cell? ⟨bn, 0, none⟩ = some (.int .u32 (n : Int)) := (hk.cell (b := bn) (World.block_lt_of_cell? _ _ d2) (fun h => h) 0).trans d2; have q3 : w1.cell? ⟨p, 0, none⟩ = some (.iface 24 (.pointer (some ⟨s, 0, none⟩))) := (hk.cell (b := p) (World.block_lt_of_cell? _ _ c0) (fun h => h) 0).trans c0; clear hr hk))
  all_goals
    have HRG := Lib.hid (Row.range HR.out)
    have HH3 := Lib.hid ((HK.out.block bb (lt_of_block H3.out) (fun h => h)).trans H3.out)
    have harr := Try.arrBlk g o c
    go_wp2_with (first | (refine wpList_load_blk rfl _ rfl g o l hl rfl HRG.out ?_) | (refine wpList_store_blk rfl _ _ rfl bb Z l hZ hl rfl rfl HH3.out ?_; intro w2 h2 k2 _; have H2 := Lib.hid h2; have K2 := Lib.hid k2; clear h2 k2))
    go_ret
    exact ⟨rfl, H2.out, (((Keep.refl (fun x => x = bb) w).drew).trans HK.out (fun _ h => h.elim)).trans K2.out (fun _ h => .inl h)⟩

end Go.Proofs.Ytejeadccpigepaa.Ino
