/- Arrays of words as values and in memory; what sha.spread does. -/
import Derived.Test.YtebijkpojlngpaaDoorShaA
import Derived.BigRegion
import Derived.Deep.MidRow
import Derived.Laws.Rows
import Derived.Great.BuildSlice
namespace Go.Proofs.YtebijkpojlngpaaDoor.Sha
open Go.RowKit Go.Proofs.YtebijkpojlngpaaDoor
set_option maxRecDepth 100000

def ucells (L : List UInt32) : List Value := L.map fun x => Value.int .u32 (n32 x)
theorem ucells_length (L : List UInt32) : (ucells L).length = L.length := by simp [ucells]
theorem ucells_get (L : List UInt32) (j : Nat) (h : j < L.length) : (ucells L)[j]? = some (.int .u32 (n32 (L.getD j 0))) := by
  simp [ucells, List.getElem?_eq_getElem h, List.getD_eq_getElem?_getD]
theorem ucells_one (L : List UInt32) : ∀ u ∈ ucells L, u.oneCell' = true := by
  intro u hu
  obtain ⟨x, _, rfl⟩ := List.mem_map.1 hu
  rfl

/-- Words as an array's cells. -/
def wC (L : List UInt32) : Array Value := (ucells L).toArray
theorem wC_size (L : List UInt32) : (wC L).size = L.length := by simp [wC, ucells_length]
theorem wC_one (L : List UInt32) : (wC L).all (·.oneCell') = true := by
  rw [Array.all_eq_true_iff_forall_mem]
  intro x hx
  exact ucells_one L x (by simpa [wC] using hx)

/-- The first words of an array of n; the others are zeros. -/
def part (n : Nat) (L : List UInt32) : List UInt32 := L ++ List.replicate (n - L.length) 0
theorem part_length (n : Nat) (L : List UInt32) (h : L.length ≤ n) : (part n L).length = n := by simp [part]; omega
theorem part_full (n : Nat) (L : List UInt32) (h : L.length = n) : part n L = L := by simp [part, h]
theorem part_set (n : Nat) (L : List UInt32) (x : UInt32) (h : L.length < n) : (part n L).set L.length x = part n (L ++ [x]) := by
  unfold part
  rw [List.set_append_right _ _ (Nat.le_refl _), Nat.sub_self, show n - L.length = (n - (L ++ [x]).length) + 1 by simp; omega, List.replicate_succ, List.set_cons_zero]
  simp
theorem part_get (n : Nat) (L : List UInt32) (j : Nat) (h : j < L.length) : (part n L).getD j 0 = L.getD j 0 := by
  unfold part
  rw [List.getD_eq_getElem?_getD, List.getElem?_append_left h, ← List.getD_eq_getElem?_getD]

/-- An array of words lies in a block of its own. -/
def WAt (w : World) (t : TypeId) (g : Nat) (L : List UInt32) : Prop := w.heap[g]? = some (.cells (wC L) t (0, 0))

theorem WAt.lt {w : World} {t : TypeId} {g : Nat} {L : List UInt32} (h : WAt w t g L) : g < w.heap.size := lt_of_block h
theorem WAt.keep {F : Nat → Prop} {w w' : World} {t : TypeId} {g : Nat} {L : List UInt32} (h : WAt w t g L) (k : Keep F w w') (hF : ¬ F g) : WAt w' t g L := (k.block g h.lt hF).trans h
theorem WAt.cell {w : World} {t : TypeId} {g : Nat} {L : List UInt32} (h : WAt w t g L) (j : Nat) (hj : j < L.length) : w.cell? ⟨g, j, none⟩ = some (.int .u32 (n32 (L.getD j 0))) := by
  rw [cell_of_row _ _ _ _ _ _ h, wC]
  simp only [List.getElem?_toArray]
  exact ucells_get L j hj
theorem WAt.free {w : World} {t : TypeId} {g : Nat} {L : List UInt32} (h : WAt w t g L) (j : Nat) : w.frozen? ⟨g, j, none⟩ = false := frozen_of_row _ _ _ _ _ h
theorem WAt.set {w : World} {t : TypeId} {g : Nat} {L : List UInt32} (h : WAt w t g L) (j : Nat) (x : UInt32) : WAt (w.setCell ⟨g, j, none⟩ (.int .u32 (n32 x))) t g (L.set j x) := by
  unfold WAt
  rw [heap_setCell_at _ h]
  congr 2
  rw [wC, wC, List.setIfInBounds_toArray, ucells, ucells, List.map_set]
theorem WAt.drew {w : World} {t : TypeId} {g : Nat} {L : List UInt32} (h : WAt w t g L) : WAt w.drew t g L := h
theorem WAt.new (w : World) (t : TypeId) (L : List UInt32) : WAt (w.alloc (.cells (wC L) t)) t w.heap.size L := heap_alloc_new w _
theorem WAt.alloc {w : World} {t : TypeId} {g : Nat} {L : List UInt32} (h : WAt w t g L) (o : Obj) : WAt (w.alloc o) t g L := h.keep (F := fun _ => False) ((Keep.refl _ w).alloc o) (fun h => h)

section
variable {P : Program} {ops : Array Oper} {rest : List Oper} {o : Oper} {a : Act} {w : World} {Q : Exit → Act → World → Prop}

theorem wpList_alloc_arr {t : TypeId} {Z : Array Value} (hz : Hid (∀ w : World, (zeroValue t).run P w = .ok (.agg Z) w)) (hg : o.guard = none) (ho : o.op = .alloc t)
    (h : wpList P ops Q rest (a.put o.dst (.pointer (some ⟨w.heap.size, 0, none⟩))) (w.alloc (.cells Z t))) : wpList P ops Q (o :: rest) a w := by
  refine wpList_plain hg fun K hK => ?_
  unfold Oper.wp execOp
  simp only [ho, Sem.run_bind, Instr.alloc, hz.out w, Result.andThen_ok, newVar, newRow, run_newObj_alloc, Sem.run_pure, Value.cells]
  exact hK _ _ h

theorem wpList_box_arr {t : TypeId} {C : Array Value} (hg : o.guard = none) (x : Operand) (ho : o.op = .box t x) (hx : a.eval x = .agg C)
    (h : wpList P ops Q rest (a.put o.dst (.pointer (some ⟨w.heap.size, 0, none⟩))) (w.alloc (.cells C t))) : wpList P ops Q (o :: rest) a w := by
  refine wpList_plain hg fun K hK => ?_
  unfold Oper.wp execOp
  simp only [ho, hx, Sem.run_bind, Instr.box, Result.andThen_ok, newVar, newRow, run_newObj_alloc, Sem.run_pure, Value.cells]
  exact hK _ _ h

theorem setRow_new (w : World) (t : TypeId) (c c' : Array Value) : (w.alloc (.cells c t)).setRow w.heap.size c' = w.alloc (.cells c' t) := by
  have : ((w.heap.push (.cells c t)).modify w.heap.size fun | .cells _ elem frozen => .cells c' elem frozen | o => o) = w.heap.push (.cells c' t) := by
    apply Array.ext
    · simp
    · intro i h1 h2
      simp only [Array.getElem_modify]
      split
      · rename_i e; subst e; simp
      · rename_i e
        have hi : i < w.heap.size := by simp at h2; omega
        simp [Array.getElem_push, hi]
  exact congrArg (fun h => ({ heap := h, tape := w.tape, drawn := w.drawn, os := w.os, output := w.output } : World)) this

/-- 'v := x' of an array: a new variable, and the store into it. -/
theorem wpList_var_arr {o2 : Oper} {t : TypeId} {Z C : Array Value} (hz : Hid (∀ w : World, (zeroValue t).run P w = .ok (.agg Z) w)) (hi : (P.info? t).map (·.size) = some C.size) (hs : Z.size = C.size) (hC1 : C.all (·.oneCell') = true) (hg : o.guard = none) (ho : o.op = .alloc t) (hg2 : o2.guard = none) (x y : Operand) (ho2 : o2.op = .store t x y)
    (hx : (a.put o.dst (.pointer (some ⟨w.heap.size, 0, none⟩))).eval x = .pointer (some ⟨w.heap.size, 0, none⟩)) (hy : (a.put o.dst (.pointer (some ⟨w.heap.size, 0, none⟩))).eval y = .agg C)
    (h : wpList P ops Q rest ((a.put o.dst (.pointer (some ⟨w.heap.size, 0, none⟩))).put o2.dst undef) (w.alloc (.cells C t))) : wpList P ops Q (o :: o2 :: rest) a w := by
  refine wpList_alloc_arr hz hg ho ?_
  refine wpList_store_row hg2 t x y ho2 w.heap.size C hx hy _ Z (heap_alloc_new w _) hi hs hC1 ?_
  rw [setRow_new]
  exact h

/-- A whole array stored. -/
theorem wpList_store_arr {t : TypeId} {Z C : Array Value} (hi : (P.info? t).map (·.size) = some C.size) (hs : Z.size = C.size) (hC1 : C.all (·.oneCell') = true) (hg : o.guard = none) (x y : Operand) (ho : o.op = .store t x y) (g : Nat) (hx : a.eval x = .pointer (some ⟨g, 0, none⟩)) (hy : a.eval y = .agg C) {t' : TypeId} (hS : w.heap[g]? = some (.cells Z t' (0, 0)))
    (h : ∀ w', w'.heap[g]? = some (.cells C t' (0, 0)) → Keep (fun b => b = g) w w' → w'.heap.size = w.heap.size → wpList P ops Q rest (a.put o.dst undef) w') : wpList P ops Q (o :: rest) a w :=
  wpList_store_row hg t x y ho g C hx hy _ Z hS hi hs hC1
    (h _ (setRow_heap w g _ _ _ _ hS) ⟨rfl, rfl, rfl, by simp, fun k _ hne => setRow_other w g k _ hne⟩ (by simp))

/-- A whole array loaded. -/
theorem wpList_load_arr {t : TypeId} {C : Array Value} {d : TypeDesc} (hu : P.underlying t = some d) (hd : (match d with | .struct _ | .array _ _ => true | _ => false) = true) (hi : (P.info? t).map (·.size) = some C.size) (hg : o.guard = none) (x : Operand) (ho : o.op = .load t x) (g : Nat) (hx : a.eval x = .pointer (some ⟨g, 0, none⟩)) {t' : TypeId} {f : Nat × Nat} (hS : w.heap[g]? = some (.cells C t' f))
    (h : wpList P ops Q rest (a.put o.dst (.agg C)) w) : wpList P ops Q (o :: rest) a w :=
  wpList_load_row hg t x ho g hx _ C _ _ hS hu hd hi h

end

theorem results_arr1 {P : Program} {fn : Func} {p : Tmp} {ty : TypeId} (h : fn.results = #[.cell p ty]) (tmps : Array Value) (w : World) (g : Nat) {t : TypeId} {cs : Array Value} {fr : Nat × Nat} {d : TypeDesc} (hp : tmps.getD p undef = .pointer (some ⟨g, 0, none⟩)) (hg : w.heap[g]? = some (.cells cs t fr))
    (hu : P.underlying ty = some d) (hd : (match d with | .struct _ | .array _ _ => true | _ => false) = true) (hi : (P.info? ty).map (·.size) = some cs.size) : (results fn tmps).run P w = .ok (.agg cs) w :=
  results_cell_row h tmps w g t cs fr d hp hg hu hd hi

theorem Tryd.zero64 (w : World) : (zeroValue 40).run Tryd.prog w = .ok (.agg (wC (part 64 []))) w := by kernel_rfl
theorem Tryd.zero8 (w : World) : (zeroValue 33).run Tryd.prog w = .ok (.agg (wC (part 8 []))) w := by kernel_rfl
theorem Tryd.info64 : (Tryd.prog.info? 40).map (·.size) = some 64 := by kernel_rfl
theorem Tryd.info8 : (Tryd.prog.info? 33).map (·.size) = some 8 := by kernel_rfl

/-- The zero array, its cells kept shut. -/
theorem z64 : ∃ Z : Array Value, Hid (∀ w : World, (zeroValue 40).run Tryd.prog w = .ok (.agg Z) w) ∧ Z.size = 64 ∧ Hid (Z = wC (part 64 [])) :=
  ⟨_, Lib.hid Tryd.zero64, by rw [wC_size, part_length _ _ (by simp)], Lib.hid rfl⟩

theorem i64_nat (n : Nat) (h : n < 9223372036854775808) : IntKind.i64.wrap (n : Int) = (n : Int) := by
  simp [IntKind.wrap, IntKind.bits, IntKind.signed]; omega

end Go.Proofs.YtebijkpojlngpaaDoor.Sha
