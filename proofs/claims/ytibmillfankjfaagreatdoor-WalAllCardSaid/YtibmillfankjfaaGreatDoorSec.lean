/- Laws of sectors as values: an array of 512 bytes laid, loaded, stored, sliced, compared. -/
import Derived.Test.YtibmillfankjfaaGreatDoorFull
import Derived.Laws.Rows
import Derived.ChangeKeysEq
import Derived.Great.BuildSlice
namespace Go.Proofs.YtibmillfankjfaaGreatDoor
open Go.RowKit
set_option maxRecDepth 100000

/-- What a sector is as a value. -/
def secC (s : ByteArray) : Array Value := (byteCells s).toArray
def secV (s : ByteArray) : Value := .agg (secC s)

theorem secC_size (s : ByteArray) : (secC s).size = s.size := by simp [secC, byteCells_length]

theorem secC_one (s : ByteArray) : (secC s).all (·.oneCell') = true := by
  rw [Array.all_eq_true_iff_forall_mem]
  intro x hx
  simp only [secC, byteCells, List.mem_toArray, List.mem_map] at hx
  obtain ⟨b, _, rfl⟩ := hx
  rfl

theorem byteCells_get (s : ByteArray) (j : Nat) (h : j < s.size) : (byteCells s)[j]? = some (.int .u8 ((s.data[j]'h).toNat : Int)) := by
  have hj : j < s.data.size := h
  simp only [byteCells, List.getElem?_map, Array.getElem?_toList, Array.getElem?_eq_getElem hj, Option.map_some]

/-- A sector lies in the block g. -/
def SecAt (w : World) (g : Nat) (s : ByteArray) : Prop := w.heap[g]? = some (.cells (secC s) 53 (0, 0)) ∧ s.size = 512

theorem SecAt.keep {F : Nat → Prop} {w w' : World} {g : Nat} {s : ByteArray} (h : SecAt w g s) (k : Keep F w w') (hF : ¬ F g) : SecAt w' g s :=
  ⟨(k.block g (lt_of_block h.1) hF).trans h.1, h.2⟩

theorem SecAt.lt {w : World} {g : Nat} {s : ByteArray} (h : SecAt w g s) : g < w.heap.size := lt_of_block h.1

theorem SecAt.new (w : World) (s : ByteArray) (h : s.size = 512) : SecAt (w.alloc (.cells (secC s) 53)) w.heap.size s := ⟨heap_alloc_new w _, h⟩

theorem SecAt.alloc {w : World} {g : Nat} {s : ByteArray} (h : SecAt w g s) (o : Obj) : SecAt (w.alloc o) g s := h.keep (F := fun _ => False) ((Keep.refl _ w).alloc o) (fun h => h)

/-- A slice of a sector, from its byte k on. -/
theorem SecAt.row {w : World} {g : Nat} {s : ByteArray} (h : SecAt w g s) (k n : Nat) (hk : k + n = 512) : Row w 53 1 (.slice (some ⟨g, k, none⟩) n n) n ((byteCells s).drop k) := by
  have hl : (byteCells s).length = 512 := by rw [byteCells_length]; exact h.2
  refine ⟨by rw [List.length_drop, hl, Nat.mul_one]; omega, .inr ⟨g, k, n, secC s, 0, 0, rfl, h.1, Nat.le_refl _, by unfold maxLen; omega, by rw [secC_size, h.2]; omega, .inl (Nat.le_refl _), ?_⟩⟩
  simp only [secC]
  rw [List.take_of_length_le (by rw [List.length_drop, hl, Nat.mul_one]; omega)]

theorem SecAt.bytes {w : World} {g : Nat} {s : ByteArray} (h : SecAt w g s) : BytesAt w g 0 s.data.toList := by
  intro j hj
  have hj' : j < s.data.size := by rw [← Array.length_toList]; exact hj
  have hb := byteCells_get s j hj'
  rw [cell_of_row _ _ _ _ _ _ h.1, Nat.zero_add]
  simp only [secC, List.getElem?_toArray]
  rw [hb]
  rfl

/-- A row over a whole block of 512 bytes is a sector. -/
theorem SecAt.of_row {w : World} {g n c : Nat} {s : ByteArray} {cur : Array Value} (hs : s.size = 512) (hg : w.heap[g]? = some (.cells cur 53 (0, 0))) (hc : cur.size = 512)
    (h : Row w 53 1 (.slice (some ⟨g, 0, none⟩) n c) n (byteCells s)) (hn : n = 512) : SecAt w g s := by
  refine ⟨?_, hs⟩
  rcases h.2 with ⟨h', _⟩ | ⟨g', off', cap', cur', lo, hi, h', hg', _, _, _, _, ht⟩
  · simp at h'
  · simp only [Value.slice.injEq, Option.some.injEq, Addr.mk.injEq, and_true, true_and] at h'
    obtain ⟨⟨rfl, rfl⟩, rfl⟩ := h'
    rw [hg] at hg'
    simp only [Option.some.injEq, Obj.cells.injEq, Prod.mk.injEq] at hg'
    obtain ⟨rfl, _, _, _⟩ := hg'
    rw [hg]
    congr 2
    rw [List.drop_zero, List.take_of_length_le (by simp; omega)] at ht
    rw [secC, ← ht]

theorem Tryz.infoSec : (Tryz.prog.info? 53).map (·.size) = some 512 := by kernel_rfl
theorem Tryz.zeroSecIs : secV zeroSec = (.agg (secC zeroSec)) := rfl
theorem Tryz.zeroSecV (w : World) : (zeroValue 53).run Tryz.prog w = .ok (secV zeroSec) w := by kernel_rfl
theorem Tryz.eqTypeSec : Tryz.prog.eqGuardType Tryz.prog.depth 53 = false := by kernel_rfl
theorem Tryz.infoU : (Tryz.prog.info? 5).map (·.size) = some 1 := by kernel_rfl

section
variable {ops : Array Oper} {rest : List Oper} {o : Oper} {a : Act} {w : World} {Q : Exit → Act → World → Prop}

/-- 'var s sector'. -/
theorem wpList_alloc_sec (hg : o.guard = none) (ho : o.op = .alloc 53)
    (h : wpList Tryz.prog ops Q rest (a.put o.dst (.pointer (some ⟨w.heap.size, 0, none⟩))) (w.alloc (.cells (secC zeroSec) 53))) : wpList Tryz.prog ops Q (o :: rest) a w := by
  refine wpList_plain hg fun K hK => ?_
  have hz := Tryz.zeroSecV w
  unfold Oper.wp execOp
  simp only [ho, Sem.run_bind, Instr.alloc, hz, Result.andThen_ok, newVar, newRow, run_newObj_alloc, Sem.run_pure, secV, Value.cells]
  exact hK _ _ h

/-- A sector boxed. -/
theorem wpList_box_sec (hg : o.guard = none) (x : Operand) (ho : o.op = .box 53 x) (s : ByteArray) (hx : a.eval x = secV s)
    (h : wpList Tryz.prog ops Q rest (a.put o.dst (.pointer (some ⟨w.heap.size, 0, none⟩))) (w.alloc (.cells (secC s) 53))) : wpList Tryz.prog ops Q (o :: rest) a w := by
  refine wpList_plain hg fun K hK => ?_
  unfold Oper.wp execOp
  simp only [ho, hx, Sem.run_bind, Instr.box, Result.andThen_ok, newVar, newRow, run_newObj_alloc, Sem.run_pure, secV, Value.cells]
  exact hK _ _ h

/-- A sector loaded. -/
theorem wpList_load_sec (hg : o.guard = none) (x : Operand) (ho : o.op = .load 53 x) (g : Nat) (s : ByteArray) (hx : a.eval x = .pointer (some ⟨g, 0, none⟩)) (hS : SecAt w g s)
    (h : wpList Tryz.prog ops Q rest (a.put o.dst (secV s)) w) : wpList Tryz.prog ops Q (o :: rest) a w :=
  wpList_load_row hg 53 x ho g hx _ (secC s) _ _ hS.1 Tryz.underlying53 rfl (by rw [secC_size, hS.2]; exact Tryz.infoSec) h

/-- A sector stored. -/
theorem wpList_store_sec (hg : o.guard = none) (x y : Operand) (ho : o.op = .store 53 x y) (g : Nat) (s0 s : ByteArray) (hx : a.eval x = .pointer (some ⟨g, 0, none⟩)) (hy : a.eval y = secV s) (hS : SecAt w g s0) (hs : s.size = 512)
    (h : ∀ w', SecAt w' g s → Keep (fun b => b = g) w w' → w'.heap.size = w.heap.size → wpList Tryz.prog ops Q rest (a.put o.dst undef) w') : wpList Tryz.prog ops Q (o :: rest) a w :=
  wpList_store_row hg 53 x y ho g (secC s) hx hy _ (secC s0) hS.1 (by rw [secC_size, hs]; exact Tryz.infoSec) (by rw [secC_size, secC_size, hs, hS.2]) (secC_one s)
    (h _ ⟨setRow_heap w g _ _ _ _ hS.1, hs⟩ ⟨rfl, rfl, rfl, by simp, fun k _ hne => setRow_other w g k _ hne⟩ (by simp))

/-- 'sector{}'. -/
theorem wpList_build_zero (hg : o.guard = none) (ho : o.op = .build 53 #[]) (h : wpList Tryz.prog ops Q rest (a.put o.dst (secV zeroSec)) w) : wpList Tryz.prog ops Q (o :: rest) a w :=
  wpList_buildTo hg 53 #[] ho o.dst rfl (secC zeroSec) (by kernel_rfl) h

theorem setRow_new (w : World) (t : TypeId) (c c' : Array Value) : (w.alloc (.cells c t)).setRow w.heap.size c' = w.alloc (.cells c' t) := by
  have : ((w.heap.push (.cells c t)).modify w.heap.size fun | .cells _ elem frozen => .cells c' elem frozen | o => o) = w.heap.push (.cells c' t) := by
    apply Array.ext
    · simp
    · intro i h1 h2
      simp only [Array.getElem_modify]
      split
      · rename_i e; subst e; simp
      · rename_i e
        have hi : i < w.heap.size := by simp at h2; omega
        simp [Array.getElem_push, hi]
  exact congrArg (fun h => ({ heap := h, tape := w.tape, drawn := w.drawn, os := w.os, output := w.output } : World)) this

/-- 's := v': a new variable, and the store into it. -/
theorem wpList_var_sec {o2 : Oper} (hg : o.guard = none) (ho : o.op = .alloc 53) (hg2 : o2.guard = none) (x y : Operand) (ho2 : o2.op = .store 53 x y) (s : ByteArray)
    (hx : (a.put o.dst (.pointer (some ⟨w.heap.size, 0, none⟩))).eval x = .pointer (some ⟨w.heap.size, 0, none⟩)) (hy : (a.put o.dst (.pointer (some ⟨w.heap.size, 0, none⟩))).eval y = secV s) (hs : s.size = 512)
    (h : wpList Tryz.prog ops Q rest ((a.put o.dst (.pointer (some ⟨w.heap.size, 0, none⟩))).put o2.dst undef) (w.alloc (.cells (secC s) 53))) : wpList Tryz.prog ops Q (o :: o2 :: rest) a w := by
  refine wpList_alloc_sec hg ho ?_
  refine wpList_store_row hg2 53 x y ho2 w.heap.size (secC s) hx hy _ (secC zeroSec) (heap_alloc_new w _) (by rw [secC_size, hs]; exact Tryz.infoSec) (by rw [secC_size, secC_size, hs, zeroSec_size]) (secC_one s) ?_
  rw [setRow_new]
  exact h

/-- 's[k:]' of a sector. -/
theorem wpList_slice_sec (hg : o.guard = none) (x : Operand) (lo : Option Operand) (ho : o.op = .slice 53 x lo none none) (g k : Nat) (hk : k < 512) (hx : a.eval x = .pointer (some ⟨g, 0, none⟩))
    (hlo : (lo = none ∧ k = 0) ∨ ∃ l z, lo = some l ∧ a.eval l = .int .i64 z ∧ z = (k : Int))
    (h : wpList Tryz.prog ops Q rest (a.put o.dst (.slice (some ⟨g, k, none⟩) (512 - k) (512 - k))) w) : wpList Tryz.prog ops Q (o :: rest) a w := by
  refine wpList_plain hg fun K hK => ?_
  obtain ⟨i, hi, hsz⟩ := Option.map_eq_some_iff.1 Tryz.infoU
  have hru : (sizeOf 5).run Tryz.prog w = .ok 1 w := by simp [sizeOf, run_typeInfo w hi, hsz]
  have hrun : (Instr.sliceAt 53 (.pointer (some ⟨g, 0, none⟩)) (lo.map a.eval) none none).run Tryz.prog w = .ok (.slice (some ⟨g, k, none⟩) (512 - k) (512 - k)) w := by
    rcases hlo with ⟨rfl, rfl⟩ | ⟨l, z, rfl, hl, rfl⟩
    · simp [Instr.sliceAt, run_underlying Tryz.underlying53, Instr.sureAddr, Instr.sliceBounds, hru, Addr.add]
    · have h1 : (0 : Int) ≤ (k : Int) ∧ (k : Int) ≤ ((512 : Nat) : Int) := by omega
      have h3 : ¬ 512 = k := by omega
      simp only [Instr.sliceAt, Sem.run_bind, run_underlying Tryz.underlying53, Instr.sureAddr, Instr.sliceBounds, Sem.run_pure, Result.andThen_ok, Option.map_some, hl, Instr.sliceBound, asIntOf, if_pos h1, hru, Int.toNat_natCast, if_neg h3, Addr.add, Nat.mul_one, Nat.zero_add]
      by_cases hk0 : k = 0 <;> simp [hk0]
  unfold Oper.wp execOp
  simp only [ho, hx, Sem.run_bind, Option.map_none, hrun, Result.andThen_ok, Sem.run_pure]
  exact hK _ _ h

def byteAt (s : ByteArray) (j : Nat) : Int := ((s.data.getD j 0).toNat : Int)

theorem secC_at (s : ByteArray) (hs : s.size = 512) (j : Nat) (h : j < 512) : (secC s)[j]? = some (.int .u8 (byteAt s j)) := by
  simp only [secC, List.getElem?_toArray]
  rw [byteCells_get s j (by omega)]
  have : j < s.data.size := by have : s.data.size = 512 := hs; omega
  simp only [byteAt]
  rw [Array.getD_eq_getD_getElem?, Array.getElem?_eq_getElem this]
  rfl

theorem sec_ext (s t : ByteArray) (hs : s.size = 512) (ht : t.size = 512) (h : ∀ j, j < 512 → byteAt s j = byteAt t j) : s = t := by
  obtain ⟨s⟩ := s
  obtain ⟨t⟩ := t
  have e1 : s.size = 512 := hs
  have e2 : t.size = 512 := ht
  congr 1
  apply Array.ext (by omega)
  intro i h1 h2
  have := h i (by omega)
  simp only [byteAt] at this
  rw [Array.getD_eq_getD_getElem?, Array.getElem?_eq_getElem h1, Array.getD_eq_getD_getElem?, Array.getElem?_eq_getElem h2] at this
  simp only [Option.getD_some] at this
  exact UInt8.toNat_inj.1 (by omega)

/-- Two sectors compared. -/
theorem eq_at (w : World) (s t : ByteArray) (hs : s.size = 512) (ht : t.size = 512) (d : Nat) :
    (Op.equalIn (d + 2) 53 (secV s) (secV t)).run Tryz.prog w = .ok (decide (s = t)) w := by
  obtain ⟨i, hi, hsz⟩ := Option.map_eq_some_iff.1 Tryz.infoU
  have hru : ∀ w, (sizeOf 5).run Tryz.prog w = .ok 1 w := fun w => by simp [sizeOf, run_typeInfo w hi, hsz]
  have hpl : Tryz.prog.plainKey 5 = true := by kernel_rfl
  rw [show d + 2 = (d + 1) + 1 from rfl, Op.equalIn]
  simp only [secV, Sem.run_bind, run_underlying Tryz.underlying53, Result.andThen_ok]
  simp only [Std.Legacy.Range.forIn_eq_forIn_range', Std.Legacy.Range.size, Nat.sub_zero, Nat.add_one_sub_one, Nat.div_one, hru, Result.andThen_ok]
  generalize hbody : (fun (i : Nat) (_s : Option Bool × Unit) => _) = body
  have hstep : ∀ j, j < 512 → ∀ st, (body j st).run Tryz.prog w = .ok (if byteAt s j = byteAt t j then ForInStep.yield (none, ()) else ForInStep.done (some false, ())) w := by
    intro j hj st
    rw [← hbody]
    have p1 := run_part_plain (P := Tryz.prog) w hpl (xs := secC s) (off := j * 1) (by rw [Nat.mul_one]; exact secC_at s hs j hj)
    have p2 := run_part_plain (P := Tryz.prog) w hpl (xs := secC t) (off := j * 1) (by rw [Nat.mul_one]; exact secC_at t ht j hj)
    simp only [Sem.run_bind, p1, p2, Result.andThen_ok, run_equalIn_int w d 5 .u8 .u8 _ _ Tryz.underlying5]
    by_cases hb : byteAt s j = byteAt t j
    · simp [hb]
    · simp [hb]
  clear hbody
  have key : ∀ (n k : Nat), k + n = 512 → ((∀ j, k ≤ j → j < 512 → byteAt s j = byteAt t j) → (forIn (List.range' k n) (none, ()) body).run Tryz.prog w = .ok (none, ()) w) ∧
      ((¬ ∀ j, k ≤ j → j < 512 → byteAt s j = byteAt t j) → (forIn (List.range' k n) (none, ()) body).run Tryz.prog w = .ok (some false, ()) w) := by
    intro n
    induction n with
    | zero =>
      intro k hk
      exact ⟨fun _ => by simp, fun h => (h (fun j h1 h2 => by omega)).elim⟩
    | succ n ih =>
      intro k hk
      rw [List.range'_succ, List.forIn_cons, Sem.run_bind, hstep k (by omega), Result.andThen_ok]
      by_cases hb : byteAt s k = byteAt t k
      · rw [if_pos hb]
        refine ⟨fun hall => (ih (k + 1) (by omega)).1 (fun j h1 h2 => hall j (by omega) h2), fun hall => (ih (k + 1) (by omega)).2 (fun h => hall (fun j h1 h2 => ?_))⟩
        rcases Nat.eq_or_lt_of_le h1 with rfl | h'
        · exact hb
        · exact h j h' h2
      · rw [if_neg hb]
        exact ⟨fun hall => (hb (hall k (Nat.le_refl _) (by omega))).elim, fun _ => by simp⟩
  by_cases hall : ∀ j, 0 ≤ j → j < 512 → byteAt s j = byteAt t j
  · rw [(key 512 0 rfl).1 hall]
    have : s = t := sec_ext s t hs ht (fun j hj => hall j (Nat.zero_le _) hj)
    simp [this]
  · rw [(key 512 0 rfl).2 hall]
    have : ¬ s = t := fun e => hall (fun j _ _ => by rw [e])
    simp [this]

theorem wpList_neq_sec (hg : o.guard = none) (x y : Operand) {ty : TypeId} (ho : o.op = .binOp .neq 53 x y ty) (s t : ByteArray) (hs : s.size = 512) (ht : t.size = 512) (hx : a.eval x = secV s) (hy : a.eval y = secV t)
    (h : wpList Tryz.prog ops Q rest (a.put o.dst (.bool (!decide (s = t)))) w) : wpList Tryz.prog ops Q (o :: rest) a w := by
  refine wpList_plain hg fun K hK => ?_
  have h1 := run_eqGuard_agg (P := Tryz.prog) w .neq 53 x y (secC s) (secC t) Tryz.eqTypeSec
  have h2 := run_neq_struct (P := Tryz.prog) w 53 (secC s) (secC t)
  have h3 := eq_at w s t hs ht 9998
  unfold Oper.wp execOp
  simp only [secV] at hx hy h3
  simp only [ho, hx, hy, Sem.run_bind, h1, h2, h3, Result.andThen_ok, Sem.run_pure]
  exact hK _ _ h

end

end Go.Proofs.YtibmillfankjfaaGreatDoor
