/- Files on blocks: a table that grows. -/
import Derived.Test.YtejeadccpigepaaGrow
namespace Go.Proofs.Ytejeadccpigepaa.Ino
open Go.RowKit Go.Maps Go.Proofs.Ytejeadccpigepaa
set_option maxRecDepth 100000

/-- Whether there has to be a block at slot k, for the parts from a on, ahead of b. -/
def needsB (T : List Nat) (k a b : Nat) : Bool := if k < 200 then decide (a ≤ k ∧ k < b) else usedB T k

def growStep (a b k : Nat) (st : List Nat × Nat) : List Nat × Nat := if tg st.1 k = 0 ∧ needsB st.1 k a b = true then (st.1.set k (st.2 + 1), st.2 + 1) else st

/-- The table behind k slots, and the last number that was taken. -/
def growTo (a b : Nat) (T : List Nat) (nx : Nat) : Nat → List Nat × Nat
  | 0 => (T, nx)
  | k + 1 => growStep a b k (growTo a b T nx k)

theorem growTo_length (a b : Nat) (T : List Nat) (nx k : Nat) : (growTo a b T nx k).1.length = T.length := by
  induction k with
  | zero => rfl
  | succ k ih => rw [growTo, growStep]; split <;> simp [ih]

theorem growTo_mono (a b : Nat) (T : List Nat) (nx k : Nat) : (growTo a b T nx k).2 ≤ (growTo a b T nx (k + 1)).2 ∧ (growTo a b T nx (k + 1)).2 ≤ (growTo a b T nx k).2 + 1 := by
  rw [growTo, growStep]; split <;> simp

theorem growTo_le (a b : Nat) (T : List Nat) (nx k j : Nat) : (growTo a b T nx k).2 ≤ (growTo a b T nx (k + j)).2 := by
  induction j with
  | zero => exact Nat.le_refl _
  | succ j ih => exact Nat.le_trans ih (growTo_mono a b T nx (k + j)).1

theorem growTo_add (a b : Nat) (T : List Nat) (nx k : Nat) : (growTo a b T nx k).2 ≤ nx + k := by
  induction k with
  | zero => exact Nat.le_refl _
  | succ k ih => have := (growTo_mono a b T nx k).2; omega

/-- What is ahead of the walk is as it was. -/
theorem growTo_ahead (a b : Nat) (T : List Nat) (nx k j : Nat) (h : k ≤ j) (hk : k ≤ T.length) : tg (growTo a b T nx k).1 j = tg T j := by
  induction k with
  | zero => rfl
  | succ k ih =>
    rw [growTo, growStep]
    split
    · rw [tg_set _ _ _ _ (by rw [growTo_length]; omega), if_neg (by omega)]; exact ih (by omega) (by omega)
    · exact ih (by omega) (by omega)

theorem growTo_max (a b : Nat) (T : List Nat) (nx k : Nat) (h : ∀ x ∈ T, x ≤ nx) : ∀ x ∈ (growTo a b T nx k).1, x ≤ (growTo a b T nx k).2 := by
  induction k with
  | zero => exact h
  | succ k ih =>
    intro x hx
    rw [growTo, growStep] at hx ⊢
    split at hx
    · rename_i hc
      rw [if_pos hc]
      rcases List.mem_or_eq_of_mem_set hx with hx | rfl
      · exact Nat.le_succ_of_le (ih x hx)
      · exact Nat.le_refl _
    · rename_i hc
      rw [if_neg hc]
      exact ih x hx

theorem givenL_congr {T A B : List Nat} {k : Nat} (h : ∀ j, j < k → tg A j = tg B j) : givenL T A k = givenL T B k := by
  induction k with
  | zero => rfl
  | succ k ih =>
    have hi := ih (fun j hj => h j (by omega))
    have hk := h k (by omega)
    by_cases h0 : tg T k = 0
    · by_cases h1 : tg A k = 0
      · rw [givenL_skip (.inr h1), givenL_skip (.inr (hk ▸ h1)), hi]
      · rw [givenL_step h0 h1, givenL_step h0 (hk ▸ h1), hi, hk]
    · rw [givenL_skip (.inl h0), givenL_skip (.inl h0), hi]

/-- The new numbers, in their order. -/
theorem growTo_given (a b : Nat) (T : List Nat) (nx k : Nat) (hk : k ≤ T.length) : givenL T (growTo a b T nx k).1 k = List.range' (nx + 1) ((growTo a b T nx k).2 - nx) := by
  induction k with
  | zero => simp [givenL_zero, growTo]
  | succ k ih =>
    replace ih := ih (by omega)
    have hah := growTo_ahead a b T nx k k (Nat.le_refl _) (by omega)
    have hge := growTo_le a b T nx 0 k
    rw [Nat.zero_add] at hge
    simp only [growTo] at hge
    have hln := growTo_length a b T nx k
    rw [growTo, growStep]
    generalize growTo a b T nx k = G at *
    obtain ⟨U, n⟩ := G
    simp only at ih hah hge hln ⊢
    by_cases hc : tg U k = 0 ∧ needsB U k a b = true
    · rw [if_pos hc]
      have e : tg (U.set k (n + 1)) k = n + 1 := by rw [tg_set _ _ _ _ (by omega), if_pos rfl]
      rw [givenL_step (by rw [← hah]; exact hc.1) (by rw [e]; omega), e, givenL_congr (B := U) (fun j hj => by rw [tg_set _ _ _ _ (by omega), if_neg (by omega)]), ih, show n + 1 - nx = (n - nx) + 1 by omega, List.range'_concat]
      congr 2
      omega
    · rw [if_neg hc]
      by_cases h0 : tg U k = 0
      · rw [givenL_skip (.inr h0), ih]
      · rw [givenL_skip (.inl (hah ▸ h0)), ih]

theorem growTo_given_all (a b : Nat) (T : List Nat) (nx k : Nat) (hT : T.length = 203) (hk : k ≤ 203) : givenL T (growTo a b T nx k).1 203 = List.range' (nx + 1) ((growTo a b T nx k).2 - nx) := by
  rw [← growTo_given a b T nx k (by omega)]
  obtain ⟨j, hj⟩ : ∃ j, 203 = k + j := ⟨203 - k, by omega⟩
  rw [hj]
  clear hj
  induction j with
  | zero => rfl
  | succ j ih =>
    rw [← Nat.add_assoc, givenL_skip, ih]
    have := growTo_ahead a b T nx k (k + j) (by omega) (by omega)
    by_cases h : tg T (k + j) = 0
    · exact .inr (by rw [this, h])
    · exact .inl h

/-- The store S' when blocks were taken since S. -/
structure Grw (S S' : Sto) : Prop where
  most : S'.most = S.most
  le : S.nxt ≤ S'.nxt
  c : S'.c = S.c + (S'.nxt - S.nxt)
  old : ∀ n, n ≤ S.nxt → S'.f n = S.f n
  new : ∀ n, S.nxt < n → n ≤ S'.nxt → S'.f n ≠ none
  past : ∀ n, S'.nxt < n → S'.f n = none

theorem Grw.refl {S : Sto} (h : ∀ k, S.f k ≠ none → 0 < k ∧ k ≤ S.nxt) : Grw S S :=
  ⟨rfl, Nat.le_refl _, by omega, fun _ _ => rfl, fun n h1 h2 => by omega, fun n hn => Classical.byContradiction fun hx => by have := h n hx; omega⟩

theorem Grw.take {S S' : Sto} (h : Grw S S') (l : List UInt8) : Grw S { S' with f := S'.set (S'.nxt + 1) (some l), c := S'.c + 1, nxt := S'.nxt + 1 } := by
  obtain ⟨h1, h2, h3, h4, h5, h6⟩ := h
  refine ⟨h1, by simp only; omega, by simp only; omega, fun n hn => ?_, fun n hn hn2 => ?_, fun n hn => ?_⟩
  · simp only [Sto.set]; rw [if_neg (by omega)]; exact h4 n hn
  · simp only [Sto.set] at *
    by_cases e : n = S'.nxt + 1
    · rw [if_pos e]; simp
    · rw [if_neg e]; exact h5 n hn (by omega)
  · simp only [Sto.set] at *
    rw [if_neg (by omega)]; exact h6 n (by omega)

/-- All that was taken given back. -/
theorem Grw.undo {S S' : Sto} (h : Grw S S') (hn : ∀ k, S.f k ≠ none → 0 < k ∧ k ≤ S.nxt) : S'.without (List.range' (S.nxt + 1) (S'.nxt - S.nxt)) = { S with nxt := S'.nxt } := by
  obtain ⟨h1, h2, h3, h4, h5, h6⟩ := h
  obtain ⟨f, c, most, nxt⟩ := S
  obtain ⟨f', c', most', nxt'⟩ := S'
  simp only [Sto.without, List.length_range', Sto.mk.injEq, and_true] at *
  refine ⟨funext fun n => ?_, by omega, h1⟩
  by_cases e : n ∈ List.range' (nxt + 1) (nxt' - nxt)
  · rw [if_pos e]
    rw [List.mem_range'_1] at e
    exact (Classical.byContradiction fun hx => by have := hn n (fun h => hx h.symm); omega)
  · rw [if_neg e]
    rw [List.mem_range'_1] at e
    by_cases hle : n ≤ nxt
    · exact h4 n hle
    · rw [h6 n (by omega)]
      exact (Classical.byContradiction fun hx => by have := hn n (fun h => hx h.symm); omega)

theorem needs_any {w : World} {g : Nat} {T : List Nat} (hT : T.length = 203) (hc : w.rangeAt g 0 (tabL T)) (k a b : Nat) (hk : k < 203) :
    Calls Try.prog 51 #[.pointer (some ⟨g, 0, none⟩), .int .i64 (k : Int), .int .i64 (a : Int), .int .i64 (b : Int)] w fun e w' => e = .returned (.bool (needsB T k a b)) ∧ w = w' := by
  by_cases h : k < 200
  · rw [needsB, if_pos h]; exact needs_lo _ ⟨g, rfl⟩ k a b h
  · rw [needsB, if_neg h]; exact needs_hi hT hc k (by omega) _ _

def zero203 : List Nat := List.replicate 203 0

/-- The zero table, its cells kept shut. -/
theorem zTab : ∃ Z : Array Value, (∀ w : World, (zeroValue 56).run Try.prog w = .ok (.agg Z) w) ∧ Z.size = 203 ∧ Hid (Z = (tabL zero203).toArray) := by
  have h : ∀ w : World, (zeroValue 56).run Try.prog w = .ok (.agg (tabL zero203).toArray) w := fun w => by kernel_rfl
  exact ⟨_, h, by simp [tabL, zero203], Lib.hid rfl⟩

/-- A table as a value. -/
def tabV (T : List Nat) : Value := .agg (tabL T).toArray

theorem tabL_one (T : List Nat) : (tabL T).toArray.all (·.oneCell') = true := all_oneCell_toArray fun v hv => by
  simp only [tabL, List.mem_map] at hv
  obtain ⟨n, _, rfl⟩ := hv
  rfl

section
variable {ops : Array Oper} {rest : List Oper} {o : Oper} {a : Act} {w : World} {Q : Exit → Act → World → Prop}

/-- A table stored into a variable of its own. -/
theorem wpList_store_tab (hg : o.guard = none) (x y : Operand) (ho : o.op = .store 56 x y) (g : Nat) (Z : Array Value) (T : List Nat) (hZ : Z.size = 203) (hT : T.length = 203) (hx : a.eval x = .pointer (some ⟨g, 0, none⟩)) (hy : a.eval y = .agg (tabL T).toArray) {t : TypeId} (hS : w.heap[g]? = some (.cells Z t (0, 0)))
    (h : ∀ w', w'.heap[g]? = some (.cells (tabL T).toArray t (0, 0)) → Keep (fun b => b = g) w w' → w'.heap.size = w.heap.size → wpList Try.prog ops Q rest (a.put o.dst undef) w') : wpList Try.prog ops Q (o :: rest) a w :=
  wpList_store_row hg 56 x y ho g (tabL T).toArray hx hy _ Z hS (by rw [List.size_toArray, tabL_length, hT]; exact Try.infoTab) (by rw [hZ, List.size_toArray, tabL_length, hT]) (tabL_one T)
    (h _ (setRow_heap w g _ _ _ _ hS) ⟨rfl, rfl, rfl, by simp, fun k _ hne => setRow_other w g k _ hne⟩ (by simp))

/-- The same, the value kept shut. -/
theorem wpList_store_tabV (hg : o.guard = none) (x y : Operand) (ho : o.op = .store 56 x y) (g : Nat) (Z : Array Value) (T : List Nat) (hZ : Z.size = 203) (hT : T.length = 203) (hx : a.eval x = .pointer (some ⟨g, 0, none⟩)) (hy : a.eval y = tabV T) {t : TypeId} (hS : w.heap[g]? = some (.cells Z t (0, 0)))
    (h : ∀ w', w'.heap[g]? = some (.cells (tabL T).toArray t (0, 0)) → Keep (fun b => b = g) w w' → w'.heap.size = w.heap.size → wpList Try.prog ops Q rest (a.put o.dst undef) w') : wpList Try.prog ops Q (o :: rest) a w :=
  wpList_store_tab hg x y ho g Z T hZ hT hx hy hS h

theorem wpList_load_tabV (hg : o.guard = none) (x : Operand) (ho : o.op = .load 56 x) (g off : Nat) (T : List Nat) (hl : T.length = 203) (hx : a.eval x = .pointer (some ⟨g, off, none⟩)) (hS : w.rangeAt g off (tabL T))
    (h : wpList Try.prog ops Q rest (a.put o.dst (tabV T)) w) : wpList Try.prog ops Q (o :: rest) a w :=
  wpList_load_tab hg x ho g off T hl hx hS h

/-- A table's variable: made, and stored into. -/
theorem wpList_var_tab {o2 : Oper} {Z : Array Value} (hz : Hid (∀ w : World, (zeroValue 56).run Try.prog w = .ok (.agg Z) w)) (hs : Z.size = 203) (hg : o.guard = none) (ho : o.op = .alloc 56) (hg2 : o2.guard = none) (x y : Operand) (ho2 : o2.op = .store 56 x y) (T : List Nat) (hT : T.length = 203)
    (hx : (a.put o.dst (.pointer (some ⟨w.heap.size, 0, none⟩))).eval x = .pointer (some ⟨w.heap.size, 0, none⟩)) (hy : (a.put o.dst (.pointer (some ⟨w.heap.size, 0, none⟩))).eval y = tabV T)
    (h : wpList Try.prog ops Q rest ((a.put o.dst (.pointer (some ⟨w.heap.size, 0, none⟩))).put o2.dst undef) (w.alloc (.cells (tabL T).toArray 56))) : wpList Try.prog ops Q (o :: o2 :: rest) a w := by
  refine wpList_plain hg fun K hK => ?_
  unfold Oper.wp execOp
  simp only [ho, Sem.run_bind, Instr.alloc, hz.out w, Result.andThen_ok, newVar, newRow, run_newObj_alloc, Sem.run_pure, Value.cells]
  refine hK _ _ ?_
  refine wpList_store_row hg2 56 x y ho2 w.heap.size (tabL T).toArray hx hy _ Z (heap_alloc_new w _) (by rw [List.size_toArray, tabL_length, hT]; exact Try.infoTab) (by rw [hs, List.size_toArray, tabL_length, hT]) (tabL_one T) ?_
  rw [setRow_fresh]
  exact h

theorem wpList_alloc_tab {Z : Array Value} (hz : Hid (∀ w : World, (zeroValue 56).run Try.prog w = .ok (.agg Z) w)) (hg : o.guard = none) (ho : o.op = .alloc 56)
    (h : wpList Try.prog ops Q rest (a.put o.dst (.pointer (some ⟨w.heap.size, 0, none⟩))) (w.alloc (.cells Z 56))) : wpList Try.prog ops Q (o :: rest) a w := by
  refine wpList_plain hg fun K hK => ?_
  unfold Oper.wp execOp
  simp only [ho, Sem.run_bind, Instr.alloc, hz.out w, Result.andThen_ok, newVar, newRow, run_newObj_alloc, Sem.run_pure, Value.cells]
  exact hK _ _ h

/-- 'table{}'. -/
theorem wpList_build_tab0 (hg : o.guard = none) (ho : o.op = .build 56 #[]) (h : wpList Try.prog ops Q rest (a.put o.dst (tabV zero203)) w) : wpList Try.prog ops Q (o :: rest) a w :=
  wpList_buildTo hg 56 #[] ho o.dst rfl (tabL zero203).toArray (by kernel_rfl) h

end

theorem tabL_set (T : List Nat) (k v : Nat) : (tabL T).set k (.int .u32 (v : Int)) = tabL (T.set k v) := by simp [tabL, List.map_set]

/-- A cell of the callee's own was written. -/
theorem IsFile.after {w W w1 w4 : World} {F : Nat → Prop} {p s r : Nat} {S : Sto} {size : Nat} {T : List Nat} (h : IsFile w1 (grow F W w1) p s S size T) (k5 : Keep (fun b => b = r) w1 w4) (hr : w.heap.size ≤ r ∧ r < W.heap.size) (hp : ¬ F p ∧ p < w.heap.size) (hF : ∀ x, F x → x < w.heap.size) (_hs : w.heap.size ≤ W.heap.size) (hs2 : W.heap.size ≤ w1.heap.size) : IsFile w4 (grow F w w4) p s S size T := by
  have h5 := k5.size
  refine (h.keep k5 (by omega) (fun x hx e => ?_)).wide (fun x hx => ?_) (fun x hx => ?_) (fun hx => ?_)
  · rcases hx with hx | hx
    · have := hF x hx; omega
    · omega
  · rcases hx with hx | hx
    · exact .inl hx
    · exact .inr (by omega)
  · rcases hx with hx | hx
    · have := hF x hx; omega
    · exact hx.2
  · rcases hx with hx | hx
    · exact hp.1 hx
    · omega

structure GrnR (w : World) (F : Nat → Prop) (p s : Nat) (S : Sto) (size : Nat) (T : List Nat) (a b tb : Nat) (iv : Value) (wr : World) : Prop where
  ex : ∃ (k : Nat) (S' : Sto), k ≤ 203 ∧ iv = .int .i64 (k : Int) ∧ IsFile wr (grow F w wr) p s S' size T ∧ Keep (fun x => F x ∨ x = tb) w wr ∧ Grw S S' ∧ S'.c ≤ S'.most ∧ S'.nxt = (growTo a b T S.nxt k).2 ∧ wr.heap[tb]? = some (.cells (tabL (growTo a b T S.nxt k).1).toArray 56 (0, 0))

/-- A block was taken for slot k. -/
theorem GrnR.taken {w wr w1 : World} {F : Nat → Prop} {p s : Nat} {S S' : Sto} {size : Nat} {T : List Nat} {a b tb k : Nat} (hk : k < 203) (hp : ¬ F p ∧ p < w.heap.size) (hne : tb ≠ p) (hFt : ¬ F tb ∧ tb < w.heap.size) (h1 : IsFile w1 (grow (grow F w wr) wr w1) p s S' size T) (k0 : Keep (fun x => F x ∨ x = tb) w wr) (k1 : Keep (grow F w wr) wr w1) (hG : Grw S S') (hcm : S'.c ≤ S'.most) (hc : tg (growTo a b T S.nxt k).1 k = 0 ∧ needsB (growTo a b T S.nxt k).1 k a b = true) (hn : S'.nxt = (growTo a b T S.nxt k).2 + 1)
    (h4 : wr.heap[tb]? = some (.cells (tabL (growTo a b T S.nxt k).1).toArray 56 (0, 0))) : GrnR w F p s S size T a b tb (.int .i64 ((k : Int) + 1)) (w1.setCell ⟨tb, k, none⟩ (.int .u32 (((growTo a b T S.nxt k).2 + 1 : Nat) : Int))) := by
  have hg := h1.grown k0.size k1.size hp
  have hnF : ¬ grow F w wr tb := fun hx => hx.elim hFt.1 (fun hx => by omega)
  have hb := (k1.block tb (lt_of_block h4) hnF).trans h4
  have k9 : Keep (fun x => x = tb) w1 (w1.setCell ⟨tb, k, none⟩ (.int .u32 (((growTo a b T S.nxt k).2 + 1 : Nat) : Int))) := (Keep.refl _ w1).setCell _ _ (.inl rfl)
  have hb9 := heap_setCell_at (i := k) (.int .u32 (((growTo a b T S.nxt k).2 + 1 : Nat) : Int)) hb
  have hst : growTo a b T S.nxt (k + 1) = ((growTo a b T S.nxt k).1.set k ((growTo a b T S.nxt k).2 + 1), (growTo a b T S.nxt k).2 + 1) := by
    rw [growTo, growStep, if_pos hc]
  refine ⟨k + 1, S', by omega, by go_num, ?_, ?_, hG, hcm, by rw [hst]; exact hn, ?_⟩
  · have h5 := hg.keep k9 (fun e => hne e.symm) (fun x hx e => by
      have e' : x = tb := e
      subst e'
      rcases hx with hx | hx
      · exact hFt.1 hx
      · omega)
    have e : grow F w (w1.setCell ⟨tb, k, none⟩ (.int .u32 (((growTo a b T S.nxt k).2 + 1 : Nat) : Int))) = grow F w w1 := by unfold grow; simp
    rw [e]; exact h5
  · refine (k0.trans k1 (fun x hx => ?_)).trans k9 (fun x hx => .inl (.inr hx))
    rcases hx with hx | hx
    · exact .inl (.inl hx)
    · exact .inr hx.1
  · rw [hst, ← tabL_set]
    simpa using hb9

set_option maxHeartbeats 2000000 in
theorem grown_any {w : World} {F : Nat → Prop} {p s : Nat} {S : Sto} {size : Nat} {T : List Nat} (h : IsFile w F p s S size T) (hx : S.nxt + 203 < 100000) (hcm : S.c ≤ S.most) (hm : ∀ x ∈ T, x ≤ S.nxt) (a b : Nat) :
    Calls Try.prog 42 #[.pointer (some ⟨p, 0, none⟩), .int .i64 (a : Int), .int .i64 (b : Int)] w fun e w' => Keep F w w' ∧
      ((S.c + ((growTo a b T S.nxt 203).2 - S.nxt) ≤ S.most ∧ e = .returned (.tuple #[tabV (growTo a b T S.nxt 203).1, .nilIface]) ∧ ∃ S', Grw S S' ∧ S'.nxt = (growTo a b T S.nxt 203).2 ∧ IsFile w' (grow F w w') p s S' size T) ∨
       (¬ S.c + ((growTo a b T S.nxt 203).2 - S.nxt) ≤ S.most ∧ ∃ r nx, e = .returned (.tuple #[tabV zero203, .iface 127 (.pointer (some ⟨r, 0, none⟩))]) ∧ S.nxt ≤ nx ∧ nx ≤ S.nxt + 203 ∧ IsFile w' (grow F w w') p s { S with nxt := nx } size T ∧ ErrAt w' w.heap.size r)) := by
  have H := Lib.hid h; have HM := Lib.hid hm
  have hT := h.len
  have HR := Lib.hid h.range
  obtain ⟨Z, hzt, hzs, hZ⟩ := zTab
  have HZT := Lib.hid hzt
  clear h hm hzt
  have K0 : Hid (Keep (fun _ => False) w ((w.alloc (.cells Z 56)).alloc (.cells (tabL T).toArray 56))) := Lib.hid (((Keep.refl _ w).alloc _).alloc _)
  have R0 : Hid (((w.alloc (.cells Z 56)).alloc (.cells (tabL T).toArray 56)).heap[w.heap.size]? = some (.cells Z 56 (0, 0)) ∧ ((w.alloc (.cells Z 56)).alloc (.cells (tabL T).toArray 56)).heap[w.heap.size + 1]? = some (.cells (tabL T).toArray 56 (0, 0)) ∧ ((w.alloc (.cells Z 56)).alloc (.cells (tabL T).toArray 56)).heap.size = w.heap.size + 2) := Lib.hid ⟨heap_past (heap_alloc_new w _), by have := heap_alloc_new (w.alloc (.cells Z 56)) (.cells (tabL T).toArray 56); simpa using this, by simp⟩
  go_enter Try.func42, Try.ntmps42
  go_wp2_with (first | (refine wpList_load_tabV rfl _ rfl p 2 T hT rfl ?_ ?_; · exact (H.out.keep0 ((Keep.refl _ w).alloc _)).range) | (refine wpList_var_tab HZT hzs rfl rfl rfl _ _ rfl T hT rfl rfl ?_) | (refine wpList_alloc_tab HZT rfl rfl ?_))
  generalize (w.alloc (.cells Z 56)).alloc (.cells (tabL T).toArray 56) = W at *
  have hpl := H.out.lt
  have hps : ¬ F p ∧ p < W.heap.size := ⟨H.out.pF, by have := R0.out.2.2; omega⟩
  have hFt : ¬ F (w.heap.size + 1) ∧ w.heap.size + 1 < W.heap.size := ⟨fun hx => by have := hpl.1 _ hx; omega, by have := R0.out.2.2; omega⟩
  have hFr : ¬ F w.heap.size ∧ w.heap.size < W.heap.size := ⟨fun hx => by have := hpl.1 _ hx; omega, by have := R0.out.2.2; omega⟩
  have hsm : ∀ k, S.f k ≠ none → 0 < k ∧ k ≤ S.nxt := by obtain ⟨b, D, hs⟩ := H.out.sto; exact hs.small
  have HSM := Lib.hid hsm
  clear hsm
  go_loopw [16] (fun i wr => GrnR W F p s S size T a b (w.heap.size + 1) i wr) (fun i _ => 203 - (intOf i).toNat)
  case atStart => exact ⟨0, S, by omega, rfl, (H.out.keep0 K0.out).same, Keep.refl _ W, Grw.refl HSM.out, hcm, rfl, R0.out.2.1⟩
  case round =>
    obtain ⟨k, S', hk, rfl, hI, hK, hG, hcc, hn, h4⟩ := hrel.ex
    have HI := Lib.hid hI; have HK := Lib.hid hK; have HG := Lib.hid hG; have HN := Lib.hid hn; have H4 := Lib.hid h4
    have hln := growTo_length a b T S.nxt k
    rw [hT] at hln
    clear hI hK hG hn h4
    have K9 : Hid (Keep F w wr) := Lib.hid ((K0.out.mono (fun _ _ h => h.elim)).trans HK.out (fun x hx => hx.elim .inl (fun e => .inr (by omega))))
    by_cases hlt : k < 203
    · have hd : decide ((k : Int) < 203) = true := by rw [decide_eq_true_eq]; omega
      have c1 := tab_cell H4.out k (by omega)
      by_cases h0 : tg (growTo a b T S.nxt k).1 k = 0
      · rw [h0] at c1
        have HND := Lib.hid (needs_any hln (tab_range H4.out) k a b hlt)
        by_cases h1 : needsB (growTo a b T S.nxt k).1 k a b = true
        · rw [h1] at HND
          have hst : growTo a b T S.nxt (k + 1) = ((growTo a b T S.nxt k).1.set k ((growTo a b T S.nxt k).2 + 1), (growTo a b T S.nxt k).2 + 1) := by rw [growTo, growStep, if_pos ⟨h0, h1⟩]
          have hle := growTo_le a b T S.nxt (k + 1) (203 - (k + 1))
          rw [show k + 1 + (203 - (k + 1)) = 203 by omega, hst] at hle
          have had := growTo_add a b T S.nxt k
          have hmx := growTo_max a b T S.nxt k HM.out
          have hgc := HG.out.c; have hgm := HG.out.most; have hgl := HG.out.le
          have hnn := HN.out
          by_cases hfull : S'.c < S'.most
          · have HTK := Lib.hid (take_any HI.out hfull (by omega) (fun x hx => by rw [hnn]; exact hmx x hx) hln H4.out (fun hx => hx.elim hFt.1 (fun hx => by omega)))
            have HTN := Lib.hid (fun (w1 : World) (l : List UInt8) (h1 : IsFile w1 (grow (grow F W wr) wr w1) p s { S' with f := S'.set (S'.nxt + 1) (some l), c := S'.c + 1, nxt := S'.nxt + 1 } size T) (k1 : Keep (grow F W wr) wr w1) => GrnR.taken (a := a) (b := b) hlt hps (by have := hpl.2; omega) hFt h1 HK.out k1 (HG.out.take l) (by simp only; omega) ⟨h0, by assumption⟩ (by simp only; omega) H4.out)
            rw [hnn] at HTK HTN
            clear h0 h1 hst hle hmx HN hnn
            have H4K : Hid (∀ w1 : World, Keep (grow F W wr) wr w1 → (w1.cell? ⟨w.heap.size + 1, k, none⟩).isSome = true ∧ w1.frozen? ⟨w.heap.size + 1, k, none⟩ = false) := Lib.hid (fun w1 k1 => by
              have hb := (k1.block _ (lt_of_block H4.out) (fun hx => hx.elim hFt.1 (fun hx => by omega))).trans H4.out
              exact ⟨by rw [tab_cell hb k (by omega)]; rfl, frozen_of_row _ _ _ _ _ hb⟩)
            generalize (growTo a b T S.nxt k).2 = nx at *
            obtain ⟨v, hv⟩ : ∃ v : Nat, v = nx + 1 := ⟨_, rfl⟩
            rw [← hv] at HTK HTN
            clear hv
            go_wp2_with (first | (go_at_call 51; refine HND.out.mono ?_; rintro e w' ⟨rfl, rfl⟩) | (go_at_call 52; refine HTK.out.mono ?_; rintro e w1 ⟨rfl, ⟨l, _, h1⟩, k1⟩; have HTR := Lib.hid (HTN.out w1 l h1 k1); obtain ⟨t3, f3⟩ := H4K.out w1 k1; obtain ⟨v3, c3⟩ := Option.isSome_iff_exists.1 t3; clear h1 k1 t3))
            go_roundw
            case rel => exact HTR.out
            case measure => simp [intOf]; omega
          · have HTF := Lib.hid (take_full HI.out (by omega) (w.heap.size + 1))
            have hnf : ¬ S.c + ((growTo a b T S.nxt 203).2 - S.nxt) ≤ S.most := by simp only at hle; omega
            have hgl : givenL T (growTo a b T S.nxt k).1 203 = List.range' (S.nxt + 1) (S'.nxt - S.nxt) := by rw [growTo_given_all a b T S.nxt k hT hk, hnn]
            have hun := HG.out.undo HSM.out
            have hnw := HG.out.new
            have hn203 : S'.nxt ≤ S.nxt + 203 := by omega
            have hgge := HG.out.le
            have HGB : Hid (∀ w1 : World, Keep (fun _ => False) wr w1 → Calls Try.prog 53 #[.pointer (some ⟨p, 0, none⟩), .pointer (some ⟨w.heap.size + 1, 0, none⟩)] w1 fun e w' => e = .returned (.tuple #[]) ∧ IsFile w' (grow (grow F W wr) w1 w') p s { S with nxt := S'.nxt } size T ∧ Keep (grow F W wr) w1 w') := Lib.hid (fun w1 k1 => by
              have h := giveBack_any (HI.out.keep0 k1) hln ((k1.block _ (lt_of_block H4.out) (fun h => h)).trans H4.out) (fun hx => hx.elim hFt.1 (fun hx => by omega)) (by rw [hgl]; exact List.nodup_range') (fun x hx => by rw [hgl, List.mem_range'_1] at hx; exact hnw x (by omega) (by omega))
              rw [hgl, hun] at h
              exact h)
            have hre := (HK.out.block _ hFr.2 (fun hx => hx.elim hFr.1 (fun hx => by omega))).trans R0.out.1
            have HRE := Lib.hid hre
            clear hre h0 h1 hst hle hmx HN hnn hun hgl hnw hgc hgm
            go_wp2_with (first | (go_at_call 51; refine HND.out.mono ?_; rintro e w' ⟨rfl, rfl⟩) | (go_at_call 52; refine HTF.out.mono ?_; rintro e w1 ⟨⟨r, rfl, hE⟩, k1⟩; have K1 := Lib.hid k1; have HE := Lib.hid hE; clear k1 hE) | (go_at_call 53; refine (HGB.out w1 K1.out).mono ?_; rintro e w2 ⟨rfl, h2, k2⟩; have H2 := Lib.hid h2; have K2 := Lib.hid k2; have HR2 := Lib.hid (((k2.block _ (by have := K1.out.size; have := K9.out.size; have := lt_of_block HRE.out; omega) (fun hx => hx.elim hFr.1 (fun hx => by omega))).trans (K1.out.block _ (lt_of_block HRE.out) (fun h => h))).trans HRE.out); clear h2 k2) | (refine wpList_build_tab0 rfl rfl ?_) | (refine wpList_store_tabV rfl _ _ rfl w.heap.size Z zero203 hzs (by simp [zero203]) rfl rfl HR2.out ?_; intro w4 h4 k4 s4; have H5 := Lib.hid h4; have K5 := Lib.hid k4; have S5 := Lib.hid s4; clear h4 k4 s4))
            refine bodyPost_ret (results_arr Try.results42 _ _ w.heap.size rfl H5.out Try.underlying56 rfl (by rw [List.size_toArray, tabL_length]; exact Try.infoTab)) rfl ?_
            have hs1 := K0.out.size; have hs2 := HK.out.size; have hs3 := K1.out.size; have hs4 := K2.out.size
            refine ⟨((K9.out.trans K1.out (fun _ h => h.elim)).trans K2.out (fun x hx => hx.elim .inl (fun hx => .inr (by omega)))).trans K5.out (fun x hx => .inr (by omega)), .inr ⟨hnf, r, S'.nxt, rfl, hgge, hn203, ?_, ((HE.out.keep K2.out (fun x hx => ?_)).keep K5.out (fun x hx => ?_)).low (by omega)⟩⟩
            rotate_left
            · rcases hx with hx | hx
              · have := hpl.1 x hx; omega
              · exact hx.2
            · omega
            refine IsFile.after (W := W) (H2.out.wide (fun x hx => ?_) (fun x hx => hx.elim (fun hx => by have := hpl.1 x hx; omega) (fun hx => hx.2)) (fun hx => hx.elim hps.1 (fun hx => by omega))) K5.out ⟨Nat.le_refl _, hFr.2⟩ ⟨hps.1, hpl.2⟩ hpl.1 hs1 (by omega)
            rcases hx with (hx | hx) | hx
            · exact .inl hx
            · exact .inr (by omega)
            · exact .inr (by omega)
        · have hst : growTo a b T S.nxt (k + 1) = growTo a b T S.nxt k := by rw [growTo, growStep, if_neg (fun h => h1 h.2)]
          have HST := Lib.hid hst
          have h1' : needsB (growTo a b T S.nxt k).1 k a b = false := by simpa using h1
          rw [h1'] at HND
          clear hst h1
          go_wp2_with (go_at_call 51; refine HND.out.mono ?_; rintro e w' ⟨rfl, rfl⟩)
          go_roundw
          case rel => exact ⟨k + 1, S', by omega, by go_num, HI.out, HK.out, HG.out, hcc, by rw [HST.out]; exact HN.out, by rw [HST.out]; exact H4.out⟩
          case measure => simp [intOf]; omega
      · have hst : growTo a b T S.nxt (k + 1) = growTo a b T S.nxt k := by rw [growTo, growStep, if_neg (fun h => h0 h.1)]
        have HST := Lib.hid hst
        have hne : ((tg (growTo a b T S.nxt k).1 k : Nat) : Int) ≠ 0 := by omega
        clear hst h0
        generalize tg (growTo a b T S.nxt k).1 k = v at *
        have hb : ((v : Int) != 0) = true := by simpa using hne
        go_wp2_with fail
        go_roundw
        case rel => exact ⟨k + 1, S', by omega, by go_num, HI.out, HK.out, HG.out, hcc, by rw [HST.out]; exact HN.out, by rw [HST.out]; exact H4.out⟩
        case measure => simp [intOf]; omega
    · have hd : decide ((k : Int) < 203) = false := by rw [decide_eq_false_iff_not]; omega
      obtain rfl : k = 203 := by omega
      clear hlt
      have hre := (HK.out.block _ hFr.2 (fun hx => hx.elim hFr.1 (fun hx => by omega))).trans R0.out.1
      have HRE := Lib.hid hre
      clear hre
      go_wp2_with (first | (refine wpList_load_tabV rfl _ rfl (w.heap.size + 1) 0 _ hln rfl (tab_range H4.out) ?_) | (refine wpList_store_tabV rfl _ _ rfl w.heap.size Z _ hzs hln rfl rfl HRE.out ?_; intro w4 h4 k4 s4; have H5 := Lib.hid h4; have K5 := Lib.hid k4; have S5 := Lib.hid s4; clear h4 k4 s4))
      refine bodyPost_ret (results_arr Try.results42 _ _ w.heap.size rfl H5.out Try.underlying56 rfl (by rw [List.size_toArray, tabL_length, hln]; exact Try.infoTab)) rfl ?_
      have hs1 := K9.out.size
      have hs2 := HK.out.size
      have hfit : S.c + ((growTo a b T S.nxt 203).2 - S.nxt) ≤ S.most := by
        have h2 := HG.out.c; have h3 := HG.out.most; have h4 := HN.out
        omega
      refine ⟨K9.out.trans K5.out (fun x hx => .inr (by omega)), .inl ⟨hfit, rfl, S', HG.out, HN.out, ?_⟩⟩
      exact IsFile.after (W := W) HI.out K5.out ⟨Nat.le_refl _, hFr.2⟩ ⟨hps.1, hpl.2⟩ hpl.1 K0.out.size hs2

end Go.Proofs.Ytejeadccpigepaa.Ino
