/- Laws of no program: a struct's or array's cells as one value: made, stored, loaded, answered. -/
import Derived.Test.YtheaghgockafmaaGreatArgs
import Derived.BigRegion
import Derived.Deep.MidRow
import Derived.Laws.Rows
import Derived.Great.BuildSlice
import Derived.Laws.ResultCell
namespace Go.Proofs.YtheaghgockafmaaGreat.Cd
open Go.RowKit Go.Proofs.YtheaghgockafmaaGreat
set_option maxRecDepth 100000

section
variable {P : Program} {ops : Array Oper} {rest : List Oper} {o : Oper} {a : Act} {w : World} {Q : Exit → Act → World → Prop}

theorem wpList_alloc_arr {t : TypeId} {Z : Array Value} (hz : Hid (∀ w : World, (zeroValue t).run P w = .ok (.agg Z) w)) (hg : o.guard = none) (ho : o.op = .alloc t)
    (h : wpList P ops Q rest (a.put o.dst (.pointer (some ⟨w.heap.size, 0, none⟩))) (w.alloc (.cells Z t))) : wpList P ops Q (o :: rest) a w := by
  refine wpList_plain hg fun K hK => ?_
  unfold Oper.wp execOp
  simp only [ho, Sem.run_bind, Instr.alloc, hz.out w, Result.andThen_ok, newVar, newRow, run_newObj_alloc, Sem.run_pure, Value.cells]
  exact hK _ _ h

theorem wpList_box_arr {t : TypeId} {C : Array Value} (hg : o.guard = none) (x : Operand) (ho : o.op = .box t x) (hx : a.eval x = .agg C)
    (h : wpList P ops Q rest (a.put o.dst (.pointer (some ⟨w.heap.size, 0, none⟩))) (w.alloc (.cells C t))) : wpList P ops Q (o :: rest) a w := by
  refine wpList_plain hg fun K hK => ?_
  unfold Oper.wp execOp
  simp only [ho, hx, Sem.run_bind, Instr.box, Result.andThen_ok, newVar, newRow, run_newObj_alloc, Sem.run_pure, Value.cells]
  exact hK _ _ h

theorem setRow_new (w : World) (t : TypeId) (c c' : Array Value) : (w.alloc (.cells c t)).setRow w.heap.size c' = w.alloc (.cells c' t) := by
  have : ((w.heap.push (.cells c t)).modify w.heap.size fun | .cells _ elem frozen => .cells c' elem frozen | o => o) = w.heap.push (.cells c' t) := by
    apply Array.ext
    · simp
    · intro i h1 h2
      simp only [Array.getElem_modify]
      split
      · rename_i e; subst e; simp
      · rename_i e
        have hi : i < w.heap.size := by simp at h2; omega
        simp [Array.getElem_push, hi]
  exact congrArg (fun h => ({ heap := h, tape := w.tape, drawn := w.drawn, os := w.os, output := w.output } : World)) this

/-- 'v := x' of an array: a new variable, and the store into it. -/
theorem wpList_var_arr {o2 : Oper} {t : TypeId} {Z C : Array Value} (hz : Hid (∀ w : World, (zeroValue t).run P w = .ok (.agg Z) w)) (hi : (P.info? t).map (·.size) = some C.size) (hs : Z.size = C.size) (hC1 : C.all (·.oneCell') = true) (hg : o.guard = none) (ho : o.op = .alloc t) (hg2 : o2.guard = none) (x y : Operand) (ho2 : o2.op = .store t x y)
    (hx : (a.put o.dst (.pointer (some ⟨w.heap.size, 0, none⟩))).eval x = .pointer (some ⟨w.heap.size, 0, none⟩)) (hy : (a.put o.dst (.pointer (some ⟨w.heap.size, 0, none⟩))).eval y = .agg C)
    (h : wpList P ops Q rest ((a.put o.dst (.pointer (some ⟨w.heap.size, 0, none⟩))).put o2.dst undef) (w.alloc (.cells C t))) : wpList P ops Q (o :: o2 :: rest) a w := by
  refine wpList_alloc_arr hz hg ho ?_
  refine wpList_store_row hg2 t x y ho2 w.heap.size C hx hy _ Z (heap_alloc_new w _) hi hs hC1 ?_
  rw [setRow_new]
  exact h

/-- A whole array stored. -/
theorem wpList_store_arr {t : TypeId} {Z C : Array Value} (hi : (P.info? t).map (·.size) = some C.size) (hs : Z.size = C.size) (hC1 : C.all (·.oneCell') = true) (hg : o.guard = none) (x y : Operand) (ho : o.op = .store t x y) (g : Nat) (hx : a.eval x = .pointer (some ⟨g, 0, none⟩)) (hy : a.eval y = .agg C) {t' : TypeId} (hS : w.heap[g]? = some (.cells Z t' (0, 0)))
    (h : ∀ w', w'.heap[g]? = some (.cells C t' (0, 0)) → Keep (fun b => b = g) w w' → w'.heap.size = w.heap.size → wpList P ops Q rest (a.put o.dst undef) w') : wpList P ops Q (o :: rest) a w :=
  wpList_store_row hg t x y ho g C hx hy _ Z hS hi hs hC1
    (h _ (setRow_heap w g _ _ _ _ hS) ⟨rfl, rfl, rfl, by simp, fun k _ hne => setRow_other w g k _ hne⟩ (by simp))

/-- A whole array loaded. -/
theorem wpList_load_arr {t : TypeId} {C : Array Value} {d : TypeDesc} (hu : P.underlying t = some d) (hd : (match d with | .struct _ | .array _ _ => true | _ => false) = true) (hi : (P.info? t).map (·.size) = some C.size) (hg : o.guard = none) (x : Operand) (ho : o.op = .load t x) (g : Nat) (hx : a.eval x = .pointer (some ⟨g, 0, none⟩)) {t' : TypeId} {f : Nat × Nat} (hS : w.heap[g]? = some (.cells C t' f))
    (h : wpList P ops Q rest (a.put o.dst (.agg C)) w) : wpList P ops Q (o :: rest) a w :=
  wpList_load_row hg t x ho g hx _ C _ _ hS hu hd hi h

end

theorem results_arr1 {P : Program} {fn : Func} {p : Tmp} {ty : TypeId} (h : fn.results = #[.cell p ty]) (tmps : Array Value) (w : World) (g : Nat) {t : TypeId} {cs : Array Value} {fr : Nat × Nat} {d : TypeDesc} (hp : tmps.getD p undef = .pointer (some ⟨g, 0, none⟩)) (hg : w.heap[g]? = some (.cells cs t fr))
    (hu : P.underlying ty = some d) (hd : (match d with | .struct _ | .array _ _ => true | _ => false) = true) (hi : (P.info? ty).map (·.size) = some cs.size) : (results fn tmps).run P w = .ok (.agg cs) w :=
  results_cell_row h tmps w g t cs fr d hp hg hu hd hi

/-- A result that is a struct in a variable of its own, and one more. -/
theorem results_arr {P : Program} {fn : Func} {p u : Tmp} {ty : TypeId} (h : fn.results = #[.cell p ty, .tmp u]) (tmps : Array Value) (w : World) (g : Nat) {t : TypeId} {cs : Array Value} {fr : Nat × Nat} {d : TypeDesc} (hp : tmps.getD p undef = .pointer (some ⟨g, 0, none⟩)) (hg : w.heap[g]? = some (.cells cs t fr))
    (hu : P.underlying ty = some d) (hd : (match d with | .struct _ | .array _ _ => true | _ => false) = true) (hi : (P.info? ty).map (·.size) = some cs.size) : (results fn tmps).run P w = .ok (.tuple #[.agg cs, tmps.getD u undef]) w := by
  rw [results_cell_tmp h, hp]
  simp only [asAddr, Sem.run_pure, Result.andThen_ok, run_loadVar_row w g t ty cs fr d hg hu hd hi]

theorem i64_nat (n : Nat) (h : n < 9223372036854775808) : IntKind.i64.wrap (n : Int) = (n : Int) := by
  rw [IntKind.wrap_i64]; omega

end Go.Proofs.YtheaghgockafmaaGreat.Cd
