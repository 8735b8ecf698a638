/- Files on blocks: lists of changes grow; paged. -/
import Derived.Test.YtejeadccpigepaaChg
namespace Go.Proofs.Ytejeadccpigepaa.Ino
open Go.RowKit Go.Maps Go.Proofs.Ytejeadccpigepaa
set_option maxRecDepth 100000

section
variable {ops : Array Oper} {rest : List Oper} {o : Oper} {a : Act} {w : World} {Q : Exit → Act → World → Prop}

/-- A list of one change. -/
theorem wpList_one_chg (hg : o.guard = none) (x : Operand) (ho : o.op = .buildSlice 91 1 #[(0, x)]) (c : Chg) (hc : c.Ok) (hx : a.eval x = c.v)
    (h : wpList Try.prog ops Q rest (a.put o.dst (.slice (some ⟨w.heap.size, 0, none⟩) 1 1)) (w.alloc (.cells c.cells.toArray 115))) : wpList Try.prog ops Q (o :: rest) a w := by
  obtain ⟨ie, z, hi, hz, hs, hzs⟩ : ∃ (it : TypeInfo) (z : Value), Try.prog.info? 115 = some it ∧ it.zero = some z ∧ it.size = 1025 ∧ z.cells.size = 1025 := by
    have h : (Try.prog.info? 115).bind (fun it => it.zero.map fun z => (it.size, z.cells.size)) = some (1025, 1025) := by kernel_rfl
    obtain ⟨it, h1, h2⟩ := Option.bind_eq_some_iff.1 h
    obtain ⟨z, h3, h4⟩ := Option.map_eq_some_iff.1 h2
    simp only [Prod.mk.injEq] at h4
    exact ⟨it, z, h1, h3, h4.1, h4.2⟩
  have hl := Chg.cells_length hc
  refine wpList_buildSlice hg _ 115 1 _ ho c.cells.toArray ie z Try.underlying91 hi hz (by rw [hs]; omega) (by rw [hs]; omega) ?_ h
  simp only [List.map_toArray, List.map_cons, List.map_nil, hx]
  obtain ⟨Y, hY⟩ : ∃ Y, Y = (Array.range (1 * ie.size)).map (z.cells[· % z.cells.size]!) := ⟨_, rfl⟩
  have hYs : Y.size = 1025 := by rw [hY]; simp [hs]
  rw [← hY, fill_step (off := 0) (size := 1025) (by rw [hs]) (by simp [Chg.v, Value.cells, hl]) (by omega)]
  have e1 := put_row 0 c.cells [] Y.toList [] rfl (by rw [Array.length_toList, hYs, hl])
  simp only [List.nil_append, List.append_nil, Array.toArray_toList] at e1
  simp only [Chg.v, Value.cells]
  rw [e1]
  rfl

/-- A change stored into a variable of its own. -/
theorem wpList_store_chg (hg : o.guard = none) (x y : Operand) (ho : o.op = .store 115 x y) (g : Nat) (Z : Array Value) (c : Chg) (hZ : Z.size = 1025) (hc : c.Ok) (hx : a.eval x = .pointer (some ⟨g, 0, none⟩)) (hy : a.eval y = c.v) {t : TypeId} (hS : w.heap[g]? = some (.cells Z t (0, 0)))
    (h : ∀ w', w'.heap[g]? = some (.cells c.cells.toArray t (0, 0)) → Keep (fun b => b = g) w w' → w'.heap.size = w.heap.size → wpList Try.prog ops Q rest (a.put o.dst undef) w') : wpList Try.prog ops Q (o :: rest) a w :=
  wpList_store_row hg 115 x y ho g c.cells.toArray hx hy _ Z hS (by rw [List.size_toArray, Chg.cells_length hc]; exact Try.infoChgS) (by rw [hZ, List.size_toArray, Chg.cells_length hc]) (all_oneCell_toArray c.cells_one)
    (h _ (setRow_heap w g _ _ _ _ hS) ⟨rfl, rfl, rfl, by simp, fun k _ hne => setRow_other w g k _ hne⟩ (by simp))

theorem Chg.range {w : World} {g : Nat} {c : Chg} {t : TypeId} {f : Nat × Nat} (hc : c.Ok) (h : w.heap[g]? = some (.cells c.cells.toArray t f)) : w.rangeAt g 1 (bcells c.old) ∧ w.rangeAt g 513 (bcells c.new) := by
  have h1 : (bcells c.old).length = 512 := by rw [bcells_length, hc.2.1]
  refine ⟨fun j v hv => ?_, fun j v hv => ?_⟩
  · have hj : j < (bcells c.old).length := (List.getElem?_eq_some_iff.1 hv).1
    rw [cell_of_row _ _ _ _ _ _ h, Nat.add_comm 1 j, List.getElem?_toArray, Chg.cells, List.getElem?_cons_succ, List.getElem?_append_left hj, hv]
  · rw [cell_of_row _ _ _ _ _ _ h, show 513 + j = (512 + j) + 1 by omega, List.getElem?_toArray, Chg.cells, List.getElem?_cons_succ, List.getElem?_append_right (by omega), h1, Nat.add_sub_cancel_left, hv]

theorem chgL_one (l : List Chg) : ∀ u ∈ chgL l, u.oneCell' = true := by
  intro u hu
  obtain ⟨c, _, h2⟩ := List.mem_flatMap.1 hu
  exact c.cells_one u h2

theorem ChgsAt.keep {F : Nat → Prop} {w w' : World} {v : Value} {l : List Chg} (h : ChgsAt w v l) (k : Keep F w w') (hF : ∀ b, v.ownBlock = some b → ¬ F b) : ChgsAt w' v l := ⟨h.row.keep k hF, h.ok⟩

theorem ChgsAt.nil (w : World) : ChgsAt w (.slice none 0 0) [] := ⟨Row.nil .., fun _ h => by simp at h⟩

/-- Changes put behind others. -/
theorem wpList_append_chgs (hg : o.guard = none) (s x : Operand) (ho : o.op = .call { callee := .builtin .append, args := #[s, x], argTypes := #[91, 91] }) {v vx : Value} {l m : List Chg}
    (hv : a.eval s = v) (h : ChgsAt w v l) (hx : a.eval x = vx) (hm : ChgsAt w vx m) (hl : l.length + m.length ≤ 100000)
    (hK : ∀ v' w', ChgsAt w' v' (l ++ m) → Keep (fun b => v.ownBlock = some b) w w' → (∀ b, v'.ownBlock = some b → v.ownBlock = some b ∨ (w.heap.size ≤ b ∧ b < w'.heap.size)) → wpList Try.prog ops Q rest (a.put o.dst v') w') : wpList Try.prog ops Q (o :: rest) a w := by
  obtain ⟨ie, z, hi, hz, hs, hb, hzs⟩ : ∃ (it : TypeInfo) (z : Value), Try.prog.info? 115 = some it ∧ it.zero = some z ∧ it.size = 1025 ∧ it.bytes = 1032 ∧ z.cells.size = 1025 := by
    have h : (Try.prog.info? 115).bind (fun it => it.zero.map fun z => (it.size, it.bytes, z.cells.size)) = some (1025, 1032, 1025) := by kernel_rfl
    obtain ⟨it, h1, h2⟩ := Option.bind_eq_some_iff.1 h
    obtain ⟨z, h3, h4⟩ := Option.map_eq_some_iff.1 h2
    simp only [Prod.mk.injEq] at h4
    exact ⟨it, z, h1, h3, h4.1, h4.2.1, h4.2.2⟩
  refine wpList_append_row w hg s x ho Try.underlying91 hi hz hs hb hzs hv h.row hx (hm.row.src Try.underlying91 (chgL_one m)) (by unfold maxLen; omega) (by omega) ?_
  intro v' w' r k f _
  refine hK v' w' ⟨?_, fun c hc => ?_⟩ k f
  · rw [List.length_append, chgL_append]
    exact r
  · rcases List.mem_append.1 hc with hc | hc
    · exact h.ok c hc
    · exact hm.ok c hc

end

theorem ChgsAt.made (w : World) (c : Chg) (hc : c.Ok) : ChgsAt (w.alloc (.cells c.cells.toArray 115)) (.slice (some ⟨w.heap.size, 0, none⟩) 1 1) [c] := by
  have h := Row.made (w := w) (e := 115) (size := 1025) c.cells.toArray w.heap.size 1 rfl (by unfold maxLen; omega) (by simp [Chg.cells_length hc])
  refine ⟨?_, fun x hx => by simp at hx; subst hx; exact hc⟩
  have e : chgL [c] = c.cells := by simp [chgL]
  rw [e]
  exact h

theorem page_length {T : List Nat} (hT : T.length = 203) {k : Nat} (hk : k = 200 ∨ k = 201 ∨ k = 202) : (page T k).length = 512 := by
  have h := namedL_length hT hk
  have h2 : namedTo k - namedFrom k ≤ 128 := by rcases hk with rfl | rfl | rfl <;> decide
  rw [page, List.length_append, pgL_length, List.length_replicate]
  omega

/-- The indirect blocks that differ, of those below n. -/
def pagedL (T T' : List Nat) (n : Nat) : List Chg := ((List.range' 200 (n - 200)).filter fun j => !decide (page T' j = page T j)).map fun j => ⟨j, page T j, page T' j⟩

theorem pagedL_start (T T' : List Nat) : pagedL T T' 200 = [] := rfl
theorem pagedL_step (T T' : List Nat) {n : Nat} (h : 200 ≤ n) : pagedL T T' (n + 1) = pagedL T T' n ++ if page T' n = page T n then [] else [⟨n, page T n, page T' n⟩] := by
  unfold pagedL
  have e : n + 1 - 200 = (n - 200) + 1 := by omega
  have e2 : 200 + (n - 200) = n := by omega
  rw [e, List.range'_concat, List.filter_append, List.map_append, Nat.one_mul, e2]
  congr 1
  by_cases h : page T' n = page T n <;> simp [h]

structure PgdR (w : World) (T T' : List Nat) (iv lv : Value) (wr : World) : Prop where
  ex : ∃ k : Nat, 200 ≤ k ∧ k ≤ 203 ∧ iv = .int .i64 (k : Int) ∧ ChgsAt wr lv (pagedL T T' k) ∧ Keep (fun _ => False) w wr ∧ ∀ b, lv.ownBlock = some b → w.heap.size ≤ b

theorem pagedL_length (T T' : List Nat) {n : Nat} (h : n ≤ 203) : (pagedL T T' n).length ≤ 3 := by
  unfold pagedL
  rw [List.length_map]
  refine Nat.le_trans (List.length_filter_le ..) ?_
  rw [List.length_range']; omega

end Go.Proofs.Ytejeadccpigepaa.Ino
