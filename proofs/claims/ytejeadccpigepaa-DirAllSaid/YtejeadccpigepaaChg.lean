/- Files on blocks: two blocks compared; lists of changes. -/
import Derived.Test.YtejeadccpigepaaPage
import Derived.ChangeKeysEq
import Derived.Great.BuildSlice
namespace Go.Proofs.Ytejeadccpigepaa.Ino
open Go.RowKit Go.Maps Go.Proofs.Ytejeadccpigepaa
set_option maxRecDepth 100000

def byteN (l : List UInt8) (j : Nat) : Int := ((l.getD j 0).toNat : Int)

theorem blkC_at (l : List UInt8) (hl : l.length = 512) (j : Nat) (h : j < 512) : (blkC l)[j]? = some (.int .u8 (byteN l j)) := by
  have hj : j < l.length := by omega
  simp only [blkC, bcells, List.getElem?_toArray, List.getElem?_map, List.getElem?_eq_getElem hj, Option.map_some, byteN, List.getD_eq_getElem?_getD, Option.getD_some]

theorem blk_ext (s t : List UInt8) (hs : s.length = 512) (ht : t.length = 512) (h : ∀ j, j < 512 → byteN s j = byteN t j) : s = t := by
  apply List.ext_getElem (by omega)
  intro i h1 h2
  have := h i (by omega)
  simp only [byteN, List.getD_eq_getElem?_getD, List.getElem?_eq_getElem h1, List.getElem?_eq_getElem h2, Option.getD_some] at this
  exact UInt8.toNat_inj.1 (by omega)

/-- Two blocks compared. -/
theorem eq_blk (w : World) (s t : List UInt8) (hs : s.length = 512) (ht : t.length = 512) (d : Nat) :
    (Op.equalIn (d + 2) 85 (.agg (blkC s)) (.agg (blkC t))).run Try.prog w = .ok (decide (s = t)) w := by
  obtain ⟨i, hi, hsz⟩ := Option.map_eq_some_iff.1 Try.infoU1
  have hru : ∀ w, (sizeOf 5).run Try.prog w = .ok 1 w := fun w => by simp [sizeOf, run_typeInfo w hi, hsz]
  have hpl : Try.prog.plainKey 5 = true := by kernel_rfl
  rw [show d + 2 = (d + 1) + 1 from rfl, Op.equalIn]
  simp only [Sem.run_bind, run_underlying Try.underlying85, Result.andThen_ok]
  simp only [Std.Legacy.Range.forIn_eq_forIn_range', Std.Legacy.Range.size, Nat.sub_zero, Nat.add_one_sub_one, Nat.div_one, hru, Result.andThen_ok]
  generalize hbody : (fun (i : Nat) (_s : Option Bool × Unit) => _) = body
  have hstep : ∀ j, j < 512 → ∀ st, (body j st).run Try.prog w = .ok (if byteN s j = byteN t j then ForInStep.yield (none, ()) else ForInStep.done (some false, ())) w := by
    intro j hj st
    rw [← hbody]
    have p1 := run_part_plain (P := Try.prog) w hpl (xs := blkC s) (off := j * 1) (by rw [Nat.mul_one]; exact blkC_at s hs j hj)
    have p2 := run_part_plain (P := Try.prog) w hpl (xs := blkC t) (off := j * 1) (by rw [Nat.mul_one]; exact blkC_at t ht j hj)
    simp only [Sem.run_bind, p1, p2, Result.andThen_ok, run_equalIn_int w d 5 .u8 .u8 _ _ Try.underlying5]
    by_cases hb : byteN s j = byteN t j
    · simp [hb]
    · simp [hb]
  clear hbody
  have key : ∀ (n k : Nat), k + n = 512 → ((∀ j, k ≤ j → j < 512 → byteN s j = byteN t j) → (forIn (List.range' k n) (none, ()) body).run Try.prog w = .ok (none, ()) w) ∧
      ((¬ ∀ j, k ≤ j → j < 512 → byteN s j = byteN t j) → (forIn (List.range' k n) (none, ()) body).run Try.prog w = .ok (some false, ()) w) := by
    intro n
    induction n with
    | zero =>
      intro k hk
      exact ⟨fun _ => by simp, fun h => (h (fun j h1 h2 => by omega)).elim⟩
    | succ n ih =>
      intro k hk
      rw [List.range'_succ, List.forIn_cons, Sem.run_bind, hstep k (by omega), Result.andThen_ok]
      by_cases hb : byteN s k = byteN t k
      · rw [if_pos hb]
        refine ⟨fun hall => (ih (k + 1) (by omega)).1 (fun j h1 h2 => hall j (by omega) h2), fun hall => (ih (k + 1) (by omega)).2 (fun h => hall (fun j h1 h2 => ?_))⟩
        rcases Nat.eq_or_lt_of_le h1 with rfl | h'
        · exact hb
        · exact h j h' h2
      · rw [if_neg hb]
        exact ⟨fun hall => (hb (hall k (Nat.le_refl _) (by omega))).elim, fun _ => by simp⟩
  by_cases hall : ∀ j, 0 ≤ j → j < 512 → byteN s j = byteN t j
  · rw [(key 512 0 rfl).1 hall]
    have : s = t := blk_ext s t hs ht (fun j hj => hall j (Nat.zero_le _) hj)
    simp [this]
  · rw [(key 512 0 rfl).2 hall]
    have : ¬ s = t := fun e => hall (fun j _ _ => by rw [e])
    simp [this]

theorem Try.eqTypeBlk : Try.prog.eqGuardType Try.prog.depth 85 = false := by kernel_rfl

section
variable {ops : Array Oper} {rest : List Oper} {o : Oper} {a : Act} {w : World} {Q : Exit → Act → World → Prop}

theorem wpList_neq_blk (hg : o.guard = none) (x y : Operand) {ty : TypeId} (ho : o.op = .binOp .neq 85 x y ty) (s t : List UInt8) (hs : s.length = 512) (ht : t.length = 512) (hx : a.eval x = .agg (blkC s)) (hy : a.eval y = .agg (blkC t))
    (h : wpList Try.prog ops Q rest (a.put o.dst (.bool (!decide (s = t)))) w) : wpList Try.prog ops Q (o :: rest) a w := by
  refine wpList_plain hg fun K hK => ?_
  have h1 := run_eqGuard_agg (P := Try.prog) w .neq 85 x y (blkC s) (blkC t) Try.eqTypeBlk
  have h2 := run_neq_struct (P := Try.prog) w 85 (blkC s) (blkC t)
  have h3 := eq_blk w s t hs ht 9998
  unfold Oper.wp execOp
  simp only [ho, hx, hy, Sem.run_bind, h1, h2, h3, Result.andThen_ok, Sem.run_pure]
  exact hK _ _ h

end

theorem Try.infoChg : (Try.prog.info? 115).map (fun i => (i.size, i.bytes)) = some (1025, 1032) := by kernel_rfl

/-- A change: which slot, what its block held, what it shall hold. -/
structure Chg where
  k : Nat
  old : List UInt8
  new : List UInt8

def Chg.cells (c : Chg) : List Value := .int .i64 (c.k : Int) :: (bcells c.old ++ bcells c.new)
def Chg.Ok (c : Chg) : Prop := c.k < 203 ∧ c.old.length = 512 ∧ c.new.length = 512
def chgL (l : List Chg) : List Value := l.flatMap Chg.cells

theorem Chg.cells_length {c : Chg} (h : c.Ok) : c.cells.length = 1025 := by simp [Chg.cells, bcells_length, h.2.1, h.2.2]

theorem Chg.cells_one (c : Chg) : ∀ v ∈ c.cells, v.oneCell' = true := by
  intro v hv
  simp only [Chg.cells, List.mem_cons, List.mem_append] at hv
  rcases hv with rfl | hv | hv
  · rfl
  · exact bcells_one _ v hv
  · exact bcells_one _ v hv

theorem chgL_length {l : List Chg} (h : ∀ c ∈ l, c.Ok) : (chgL l).length = l.length * 1025 := by
  induction l with
  | nil => rfl
  | cons c l ih =>
    have h1 := Chg.cells_length (h c (List.mem_cons_self ..))
    have h2 := ih (fun x hx => h x (List.mem_cons_of_mem _ hx))
    simp only [chgL, List.flatMap_cons, List.length_append, List.length_cons] at *
    omega

theorem chgL_append (l m : List Chg) : chgL (l ++ m) = chgL l ++ chgL m := by simp [chgL]

/-- A list of changes in memory. -/
structure ChgsAt (w : World) (v : Value) (l : List Chg) : Prop where
  row : Row w 115 1025 v l.length (chgL l)
  ok : ∀ c ∈ l, c.Ok

/-- Cells put in at an offset. -/
theorem put_row (off : Nat) (l : List Value) (A B C : List Value) (hA : A.length = off) (hB : B.length = l.length) :
    ((l.toArray.zipIdx).foldl (fun cs (x : Value × Nat) => cs.setIfInBounds (off + x.2) x.1) (A ++ B ++ C).toArray) = (A ++ l ++ C).toArray := by
  obtain ⟨g1, g2⟩ := Great.foldl_set off l 0 (A ++ B ++ C).toArray
  rw [← Array.foldl_toList, Array.toList_zipIdx]
  apply Array.ext_getElem?
  intro k
  rw [g2 k]
  simp only [Nat.add_zero, List.size_toArray, List.length_append, List.getElem?_toArray]
  by_cases h1 : k < off
  · rw [if_neg (by omega), List.append_assoc, List.append_assoc, List.getElem?_append_left (by omega), List.getElem?_append_left (by omega)]
  · by_cases h2 : k < off + l.length
    · rw [if_pos (by omega), List.append_assoc, List.getElem?_append_right (by omega), List.getElem?_append_left (by omega), hA]
    · rw [if_neg (by omega), List.append_assoc, List.append_assoc, List.getElem?_append_right (by omega), List.getElem?_append_right (by omega), List.getElem?_append_right (l₁ := A) (by omega), List.getElem?_append_right (l₁ := l) (by omega), hB]

theorem fill_step {place : Nat → Option (Nat × Nat)} {cells : Array Value} {i : Nat} {v : Value} {rest : List (Nat × Value)} {off size : Nat} (hp : place i = some (off, size)) (h1 : v.cells.size = size) (h2 : off + size ≤ cells.size) :
    Instr.fill place cells ((i, v) :: rest) = Instr.fill place (v.cells.zipIdx.foldl (fun cs (x : Value × Nat) => cs.setIfInBounds (off + x.2) x.1) cells) rest := by
  rw [Instr.fill]
  simp only [hp]
  rw [if_neg (by simp; omega)]

/-- A struct of a number and two blocks, filled. -/
theorem fill_chg (Z : Array Value) (hZ : Z.size = 1025) (v : Value) (hv : v.cells = #[v]) (A B : List Value) (hA : A.length = 512) (hB : B.length = 512) :
    Instr.fill ([(0, 1), (1, 512), (513, 512)].toArray[·]?) Z [(0, v), (1, .agg A.toArray), (2, .agg B.toArray)] = some (v :: (A ++ B)).toArray := by
  obtain ⟨z⟩ := Z
  simp only [List.size_toArray] at hZ
  match z, hZ with
  | a :: z, hZ =>
    simp only [List.length_cons] at hZ
    obtain ⟨z1, z2, rfl, h1, h2⟩ : ∃ z1 z2 : List Value, z = z1 ++ z2 ∧ z1.length = 512 ∧ z2.length = 512 := ⟨z.take 512, z.drop 512, (List.take_append_drop ..).symm, by simp; omega, by simp; omega⟩
    have e1 := put_row 0 [v] [] [a] (z1 ++ z2) rfl rfl
    have e2 := put_row 1 A [v] z1 z2 rfl (by omega)
    have e3 := put_row 513 B (v :: A) z2 [] (by simp [hA]) (by omega)
    simp only [List.nil_append, List.append_nil, List.cons_append, Nat.zero_add] at e1 e2 e3
    have f1 := fill_step (place := ([(0, 1), (1, 512), (513, 512)].toArray[·]?)) (cells := (a :: (z1 ++ z2)).toArray) (i := 0) (v := v) (rest := [(1, .agg A.toArray), (2, .agg B.toArray)]) (off := 0) (size := 1) rfl (by rw [hv]; rfl) (by simp)
    have f2 := fill_step (place := ([(0, 1), (1, 512), (513, 512)].toArray[·]?)) (cells := (v :: (z1 ++ z2)).toArray) (i := 1) (v := .agg A.toArray) (rest := [(2, .agg B.toArray)]) (off := 1) (size := 512) rfl (by simp [Value.cells, hA]) (by simp [h1, h2])
    have f3 := fill_step (place := ([(0, 1), (1, 512), (513, 512)].toArray[·]?)) (cells := (v :: (A ++ z2)).toArray) (i := 2) (v := .agg B.toArray) (rest := []) (off := 513) (size := 512) rfl (by simp [Value.cells, hB]) (by simp [hA, h2])
    rw [hv] at f1
    simp only [Nat.zero_add] at f1
    simp only [Value.cells] at f2 f3
    rw [f1, e1, f2, e2, f3, e3]
    rfl

theorem Try.builtChg (v : Value) (hv : v.cells = #[v]) (A B : List Value) (hA : A.length = 512) (hB : B.length = 512) :
    Try.prog.built 115 [(0, v), (1, .agg A.toArray), (2, .agg B.toArray)] = some (v :: (A ++ B)).toArray := by
  obtain ⟨it, z, hi, hz, hs⟩ : ∃ (it : TypeInfo) (z : Value), Try.prog.info? 115 = some it ∧ it.zero = some z ∧ z.cells.size = 1025 := by
    have h : (Try.prog.info? 115).bind (fun it => it.zero.map fun z => z.cells.size) = some 1025 := by kernel_rfl
    obtain ⟨it, h1, h2⟩ := Option.bind_eq_some_iff.1 h
    obtain ⟨z, h3, h4⟩ := Option.map_eq_some_iff.1 h2
    exact ⟨it, z, h1, h3, h4⟩
  have hu := Try.underlying115
  unfold Program.built
  simp only [hi, hu, hz]
  exact fill_chg z.cells hs v hv A B hA hB

theorem bcells_arr (l : List UInt8) : blkC l = (bcells l).toArray := rfl

def Chg.v (c : Chg) : Value := .agg c.cells.toArray

theorem setRow_fresh (w : World) (t : TypeId) (c c' : Array Value) : (w.alloc (.cells c t)).setRow w.heap.size c' = w.alloc (.cells c' t) := by
  have : ((w.heap.push (.cells c t)).modify w.heap.size fun | .cells _ elem frozen => .cells c' elem frozen | o => o) = w.heap.push (.cells c' t) := by
    apply Array.ext
    · simp
    · intro i h1 h2
      simp only [Array.getElem_modify]
      split
      · rename_i e; subst e; simp
      · rename_i e
        have hi : i < w.heap.size := by simp at h2; omega
        simp [Array.getElem_push, hi]
  exact congrArg (fun h => ({ heap := h, tape := w.tape, drawn := w.drawn, os := w.os, output := w.output } : World)) this

/-- The zero change, its cells kept shut. -/
theorem zChg : ∃ Z : Array Value, (∀ w : World, (zeroValue 115).run Try.prog w = .ok (.agg Z) w) ∧ Z.size = 1025 := by
  obtain ⟨it, C, hi, hz, hs⟩ : ∃ (it : TypeInfo) (C : Array Value), Try.prog.info? 115 = some it ∧ it.zero = some (.agg C) ∧ C.size = 1025 := by
    have h : ((Try.prog.info? 115).bind (fun it => it.zero.map fun z => match z with | .agg C => C.size | _ => 0)) = some 1025 := by kernel_rfl
    obtain ⟨it, h1, h2⟩ := Option.bind_eq_some_iff.1 h
    obtain ⟨z, h3, h4⟩ := Option.map_eq_some_iff.1 h2
    split at h4
    · exact ⟨it, _, h1, h3, h4⟩
    · simp at h4
  exact ⟨C, fun w => by simp [zeroValue, typeInfo, hi, hz], hs⟩

theorem Try.infoChgS : (Try.prog.info? 115).map (·.size) = some 1025 := by kernel_rfl

section
variable {ops : Array Oper} {rest : List Oper} {o : Oper} {a : Act} {w : World} {Q : Exit → Act → World → Prop}

/-- 'change{slot: .., old: .., new: ..}'. -/
theorem wpList_build_chg (hg : o.guard = none) (x y z : Operand) (ho : o.op = .build 115 #[(0, x), (1, y), (2, z)]) (k : Nat) (A B : List UInt8) (hA : A.length = 512) (hB : B.length = 512)
    (hx : a.eval x = .int .i64 (k : Int)) (hy : a.eval y = .agg (blkC A)) (hz : a.eval z = .agg (blkC B))
    (h : wpList Try.prog ops Q rest (a.put o.dst (Chg.mk k A B).v) w) : wpList Try.prog ops Q (o :: rest) a w := by
  refine wpList_buildTo hg _ _ ho o.dst rfl (Chg.mk k A B).cells.toArray ?_ h
  simp only [List.map_toArray, List.map_cons, List.map_nil, hx, hy, hz]
  exact Try.builtChg (.int .i64 (k : Int)) rfl (bcells A) (bcells B) (by rw [bcells_length, hA]) (by rw [bcells_length, hB])

/-- A change's variable: made, and stored into. -/
theorem wpList_var_chg {o2 : Oper} (hg : o.guard = none) (ho : o.op = .alloc 115) (hg2 : o2.guard = none) (x y : Operand) (ho2 : o2.op = .store 115 x y) (c : Chg) (hc : c.Ok)
    (hx : (a.put o.dst (.pointer (some ⟨w.heap.size, 0, none⟩))).eval x = .pointer (some ⟨w.heap.size, 0, none⟩)) (hy : (a.put o.dst (.pointer (some ⟨w.heap.size, 0, none⟩))).eval y = c.v)
    (h : wpList Try.prog ops Q rest ((a.put o.dst (.pointer (some ⟨w.heap.size, 0, none⟩))).put o2.dst undef) (w.alloc (.cells c.cells.toArray 115))) : wpList Try.prog ops Q (o :: o2 :: rest) a w := by
  obtain ⟨Z, hz, hs⟩ := zChg
  refine wpList_plain hg fun K hK => ?_
  unfold Oper.wp execOp
  simp only [ho, Sem.run_bind, Instr.alloc, hz w, Result.andThen_ok, newVar, newRow, run_newObj_alloc, Sem.run_pure, Value.cells]
  refine hK _ _ ?_
  refine wpList_store_row hg2 115 x y ho2 w.heap.size c.cells.toArray hx hy _ Z (heap_alloc_new w _) (by rw [List.size_toArray, Chg.cells_length hc]; exact Try.infoChgS) (by rw [hs, List.size_toArray, Chg.cells_length hc]) (all_oneCell_toArray c.cells_one) ?_
  rw [setRow_fresh]
  exact h

/-- A change loaded. -/
theorem wpList_load_chg (hg : o.guard = none) (x : Operand) (ho : o.op = .load 115 x) (g : Nat) (c : Chg) (hc : c.Ok) (hx : a.eval x = .pointer (some ⟨g, 0, none⟩)) {t : TypeId} {f : Nat × Nat} (hS : w.heap[g]? = some (.cells c.cells.toArray t f))
    (h : wpList Try.prog ops Q rest (a.put o.dst c.v) w) : wpList Try.prog ops Q (o :: rest) a w :=
  wpList_load_row hg 115 x ho g hx _ c.cells.toArray _ _ hS Try.underlying115 rfl (by rw [List.size_toArray, Chg.cells_length hc]; exact Try.infoChgS) h

end

end Go.Proofs.Ytejeadccpigepaa.Ino
