/- Files on blocks: a file in memory; blocks and tables as values. -/
import Derived.Test.YtejeadccpigepaaSto
import Derived.Defers
import Derived.Recover
import Derived.Laws.Rows
namespace Go.Proofs.Ytejeadccpigepaa.Ino
open Go.RowKit Go.Maps Go.Proofs.Ytejeadccpigepaa
set_option maxRecDepth 100000

def tabL (T : List Nat) : List Value := T.map fun n : Nat => Value.int .u32 (n : Int)

/-- A file lies in block p, on the store in s. -/
structure IsFile (w : World) (F : Nat → Prop) (p s : Nat) (S : Sto) (size : Nat) (T : List Nat) : Prop where
  head : w.heap[p]? = some (.cells (.iface 24 (.pointer (some ⟨s, 0, none⟩)) :: .int .i64 (size : Int) :: tabL T).toArray 58 (0, 0))
  sto : ∃ b D, IsSto w F s b D S
  pF : ¬ F p
  len : T.length = 203
  fit : ∀ x ∈ T, x < 4294967296

theorem IsFile.cell {w : World} {F : Nat → Prop} {p s : Nat} {S : Sto} {size : Nat} {T : List Nat} (h : IsFile w F p s S size T) (i : Nat) :
    w.cell? ⟨p, i, none⟩ = (Value.iface 24 (.pointer (some ⟨s, 0, none⟩)) :: .int .i64 (size : Int) :: tabL T)[i]? := by
  rw [cell_of_row _ _ _ _ _ _ h.head]; simp

theorem IsFile.keep {G : Nat → Prop} {w w' : World} {F : Nat → Prop} {p s : Nat} {S : Sto} {size : Nat} {T : List Nat} (h : IsFile w F p s S size T) (k : Keep G w w') (hp : ¬ G p) (hG : ∀ x, F x → ¬ G x) : IsFile w' F p s S size T := by
  obtain ⟨b, D, hs⟩ := h.sto
  exact ⟨(k.block p (lt_of_block h.head) hp).trans h.head, ⟨b, D, hs.keep k hG⟩, h.pF, h.len, h.fit⟩

/-- What a block is as a value. -/
def blkC (l : List UInt8) : Array Value := (bcells l).toArray
def zero512 : List UInt8 := List.replicate 512 0
theorem Try.zeroBlk (w : World) : (zeroValue 85).run Try.prog w = .ok (.agg (blkC zero512)) w := by kernel_rfl

theorem zero512_len : zero512.length = 512 := List.length_replicate

theorem blkC_size (l : List UInt8) : (blkC l).size = l.length := by simp [blkC, bcells_length]
theorem blkC_one (l : List UInt8) : (blkC l).all (·.oneCell') = true := by
  rw [Array.all_eq_true_iff_forall_mem]
  intro x hx
  exact bcells_one l x (by simpa [blkC] using hx)

/-- The zero block, its cells kept shut. -/
theorem z512 : ∃ Z : Array Value, (∀ w : World, (zeroValue 85).run Try.prog w = .ok (.agg Z) w) ∧ Z.size = 512 ∧ Z.all (·.oneCell') = true ∧ Hid (Z = blkC zero512) :=
  ⟨_, Try.zeroBlk, by rw [blkC_size]; exact zero512_len, blkC_one _, Lib.hid rfl⟩

theorem Try.infoBlk : (Try.prog.info? 85).map (·.size) = some 512 := by kernel_rfl

section
variable {ops : Array Oper} {rest : List Oper} {o : Oper} {a : Act} {w : World} {Q : Exit → Act → World → Prop}

/-- A block stored into a variable of its own. -/
theorem wpList_store_blkC (hg : o.guard = none) (x y : Operand) (ho : o.op = .store 85 x y) (g : Nat) (Z C : Array Value) (hZ : Z.size = 512) (hC : C.size = 512) (hC1 : C.all (·.oneCell') = true) (hx : a.eval x = .pointer (some ⟨g, 0, none⟩)) (hy : a.eval y = .agg C) {t : TypeId} (hS : w.heap[g]? = some (.cells Z t (0, 0)))
    (h : ∀ w', w'.heap[g]? = some (.cells C t (0, 0)) → Keep (fun b => b = g) w w' → w'.heap.size = w.heap.size → wpList Try.prog ops Q rest (a.put o.dst undef) w') : wpList Try.prog ops Q (o :: rest) a w :=
  wpList_store_row hg 85 x y ho g C hx hy _ Z hS (by rw [hC]; exact Try.infoBlk) (by rw [hC, hZ]) hC1
    (h _ (setRow_heap w g _ _ _ _ hS) ⟨rfl, rfl, rfl, by simp, fun k _ hne => setRow_other w g k _ hne⟩ (by simp))

/-- A block stored. -/
theorem wpList_store_blk (hg : o.guard = none) (x y : Operand) (ho : o.op = .store 85 x y) (g : Nat) (Z : Array Value) (l : List UInt8) (hZ : Z.size = 512) (hl : l.length = 512) (hx : a.eval x = .pointer (some ⟨g, 0, none⟩)) (hy : a.eval y = .agg (blkC l)) {t : TypeId} (hS : w.heap[g]? = some (.cells Z t (0, 0)))
    (h : ∀ w', w'.heap[g]? = some (.cells (blkC l) t (0, 0)) → Keep (fun b => b = g) w w' → w'.heap.size = w.heap.size → wpList Try.prog ops Q rest (a.put o.dst undef) w') : wpList Try.prog ops Q (o :: rest) a w :=
  wpList_store_blkC hg x y ho g Z (blkC l) hZ (by rw [blkC_size, hl]) (blkC_one l) hx hy hS h

/-- A whole variable loaded. -/
theorem wpList_load_blkC (hg : o.guard = none) (x : Operand) (ho : o.op = .load 85 x) (g : Nat) (C : Array Value) (hC : C.size = 512) (hx : a.eval x = .pointer (some ⟨g, 0, none⟩)) {t : TypeId} {f : Nat × Nat} (hS : w.heap[g]? = some (.cells C t f))
    (h : wpList Try.prog ops Q rest (a.put o.dst (.agg C)) w) : wpList Try.prog ops Q (o :: rest) a w :=
  wpList_load_row hg 85 x ho g hx _ C _ _ hS Try.underlying85 rfl (by rw [hC]; exact Try.infoBlk) h

/-- A block loaded, wherever it lies. -/
theorem wpList_load_blk (hg : o.guard = none) (x : Operand) (ho : o.op = .load 85 x) (g off : Nat) (l : List UInt8) (hl : l.length = 512) (hx : a.eval x = .pointer (some ⟨g, off, none⟩)) (hS : w.rangeAt g off (bcells l))
    (h : wpList Try.prog ops Q rest (a.put o.dst (.agg (blkC l))) w) : wpList Try.prog ops Q (o :: rest) a w :=
  wpList_load_mid hg 85 x ho g off hx (bcells l) _ hS Try.underlying85 rfl (by rw [bcells_length, hl]; exact Try.infoBlk) h

end

end Go.Proofs.Ytejeadccpigepaa.Ino
