/- Files on blocks: blocks given back. -/
import Derived.Test.YtejeadccpigepaaPag
namespace Go.Proofs.Ytejeadccpigepaa.Ino
open Go.RowKit Go.Maps Go.Proofs.Ytejeadccpigepaa
set_option maxRecDepth 100000

theorem Try.infoTab : (Try.prog.info? 56).map (·.size) = some 203 := by kernel_rfl

theorem Try.infoU32 : (Try.prog.info? 54).map (·.size) = some 1 := by kernel_rfl

theorem IsFile.range {w : World} {F : Nat → Prop} {p s : Nat} {S : Sto} {size : Nat} {T : List Nat} (h : IsFile w F p s S size T) : w.rangeAt p 2 (tabL T) := fun j v hv => by
  rw [h.cell, Nat.add_comm 2 j]
  simpa using hv

theorem tab_range {w : World} {tb : Nat} {T' : List Nat} {t : TypeId} {f : Nat × Nat} (h : w.heap[tb]? = some (.cells (tabL T').toArray t f)) : w.rangeAt tb 0 (tabL T') := fun j v hv => by
  rw [cell_of_row _ _ _ _ _ _ h]
  simpa using hv

/-- What a table has at a slot. -/
def tg (T : List Nat) (k : Nat) : Nat := T.getD k 0
theorem tg_mem {T : List Nat} {k : Nat} (h : k < T.length) : tg T k ∈ T := by
  rw [tg, List.getD_eq_getElem?_getD, List.getElem?_eq_getElem h]; exact List.getElem_mem h
theorem tg_set (T : List Nat) (k j v : Nat) (h : k < T.length) : tg (T.set k v) j = if j = k then v else tg T j := by
  simp only [tg, List.getD_eq_getElem?_getD, List.getElem?_set]
  by_cases e : k = j
  · subst e; simp [h]
  · rw [if_neg e, if_neg (fun h => e h.symm)]
theorem tabL_tg (T : List Nat) (k : Nat) (h : k < T.length) : (tabL T)[k]? = some (.int .u32 ((tg T k : Nat) : Int)) := by simp [tabL, h, tg]

theorem tab_cell {w : World} {tb : Nat} {T' : List Nat} {t : TypeId} {f : Nat × Nat} (h : w.heap[tb]? = some (.cells (tabL T').toArray t f)) (k : Nat) (hk : k < T'.length) : w.cell? ⟨tb, k, none⟩ = some (.int .u32 ((tg T' k : Nat) : Int)) := by
  rw [cell_of_row _ _ _ _ _ _ h]
  simp [tabL, hk, tg]

section
variable {ops : Array Oper} {rest : List Oper} {o : Oper} {a : Act} {w : World} {Q : Exit → Act → World → Prop}

/-- A table loaded, wherever it lies. -/
theorem wpList_load_tab (hg : o.guard = none) (x : Operand) (ho : o.op = .load 56 x) (g off : Nat) (T : List Nat) (hl : T.length = 203) (hx : a.eval x = .pointer (some ⟨g, off, none⟩)) (hS : w.rangeAt g off (tabL T))
    (h : wpList Try.prog ops Q rest (a.put o.dst (.agg (tabL T).toArray)) w) : wpList Try.prog ops Q (o :: rest) a w :=
  wpList_load_mid hg 56 x ho g off hx (tabL T) _ hS Try.underlying56 rfl (by rw [tabL_length, hl]; exact Try.infoTab) h

/-- An element of a table that is a value. -/
theorem wpList_index_tab (hg : o.guard = none) (x y : Operand) (ho : o.op = .index 56 x y) (T : List Nat) (k : Nat) (hk : k < 203) (hT : T.length = 203) (hx : a.eval x = .agg (tabL T).toArray) (hy : a.eval y = .int .i64 (k : Int))
    (h : wpList Try.prog ops Q rest (a.put o.dst (.int .u32 ((tg T k : Nat) : Int))) w) : wpList Try.prog ops Q (o :: rest) a w := by
  refine wpList_plain hg fun K hK => ?_
  obtain ⟨i, hi, hsz⟩ := Option.map_eq_some_iff.1 Try.infoU32
  have hru : (sizeOf 54).run Try.prog w = .ok 1 w := by simp [sizeOf, run_typeInfo w hi, hsz]
  have hpl : Try.prog.plainKey 54 = true := by kernel_rfl
  have p1 := run_part_plain (P := Try.prog) w hpl (xs := (tabL T).toArray) (off := k * 1) (by rw [Nat.mul_one]; simp only [List.getElem?_toArray]; exact tabL_tg T k (by omega))
  have h1 : (0 : Int) ≤ (k : Int) ∧ (k : Int) < ((203 : Nat) : Int) := by omega
  have hrun : (Instr.index 56 (.agg (tabL T).toArray) (.int .i64 (k : Int))).run Try.prog w = .ok (.int .u32 ((tg T k : Nat) : Int)) w := by
    simp only [Instr.index, asIntOf, Sem.run_bind, Sem.run_pure, Result.andThen_ok, run_underlying Try.underlying56, if_pos h1, hru, Int.toNat_natCast, p1]
  unfold Oper.wp execOp
  simp only [ho, hx, hy, Sem.run_bind, hrun, Result.andThen_ok, Sem.run_pure]
  exact hK _ _ h

end

/-- The numbers that T' has where T has none. -/
def givenL (T T' : List Nat) (k : Nat) : List Nat := ((List.range k).filter fun j => tg T j == 0 && tg T' j != 0).map fun j => tg T' j

theorem givenL_zero (T T' : List Nat) : givenL T T' 0 = [] := rfl
theorem givenL_skip {T T' : List Nat} {k : Nat} (h : tg T k ≠ 0 ∨ tg T' k = 0) : givenL T T' (k + 1) = givenL T T' k := by
  unfold givenL
  rw [List.range_succ, List.filter_append, List.map_append]
  have e : (List.filter (fun j => tg T j == 0 && tg T' j != 0) [k]) = [] := by rcases h with h | h <;> simp [h]
  rw [e]; simp
theorem givenL_step {T T' : List Nat} {k : Nat} (h : tg T k = 0) (h2 : tg T' k ≠ 0) : givenL T T' (k + 1) = givenL T T' k ++ [tg T' k] := by
  unfold givenL
  rw [List.range_succ, List.filter_append, List.map_append]
  have e : (List.filter (fun j => tg T j == 0 && tg T' j != 0) [k]) = [k] := by simp [h, h2]
  rw [e]; rfl
theorem givenL_pre (T T' : List Nat) (j k : Nat) : ∃ m, givenL T T' (j + k) = givenL T T' j ++ m := by
  unfold givenL
  rw [List.range_add, List.filter_append, List.map_append]
  exact ⟨_, rfl⟩

/-- The store when the numbers of L are given back. -/
def Sto.without (S : Sto) (L : List Nat) : Sto := { S with f := fun n => if n ∈ L then none else S.f n, c := S.c - L.length }

theorem Sto.without_nil (S : Sto) : S.without [] = S := by simp [Sto.without]
theorem Sto.without_snoc (S : Sto) (L : List Nat) (n : Nat) : { S.without L with f := (S.without L).set n none, c := (S.without L).c - 1 } = S.without (L ++ [n]) := by
  obtain ⟨f, c, most, nxt⟩ := S
  simp only [Sto.without, List.length_append, List.length_singleton, Sto.mk.injEq, and_true]
  refine ⟨funext fun k => ?_, by omega⟩
  unfold Sto.set
  by_cases h1 : k = n <;> by_cases h2 : k ∈ L <;> simp [h1, h2]

structure GbR (w : World) (F : Nat → Prop) (p s : Nat) (S : Sto) (size : Nat) (T T' : List Nat) (iv : Value) (wr : World) : Prop where
  ex : ∃ k : Nat, k ≤ 203 ∧ iv = .int .i64 (k : Int) ∧ IsFile wr (grow F w wr) p s (S.without (givenL T T' k)) size T ∧ Keep F w wr

theorem IsFile.same {w : World} {F : Nat → Prop} {p s : Nat} {S : Sto} {size : Nat} {T : List Nat} (h : IsFile w F p s S size T) : IsFile w (grow F w w) p s S size T :=
  h.wide (fun _ hx => .inl hx) (fun x hx => hx.elim (h.lt.1 x) (fun hx => by omega)) (fun hx => hx.elim h.pF (fun hx => by omega))

/-- Growth put together. -/
theorem IsFile.grown {w w1 w2 : World} {F : Nat → Prop} {p s : Nat} {S : Sto} {size : Nat} {T : List Nat} (h : IsFile w2 (grow (grow F w w1) w1 w2) p s S size T) (hs : w.heap.size ≤ w1.heap.size) (hs2 : w1.heap.size ≤ w2.heap.size) (hp : ¬ F p ∧ p < w.heap.size) : IsFile w2 (grow F w w2) p s S size T :=
  h.wide (fun x hx => by
    rcases hx with (hx | hx) | hx
    · exact .inl hx
    · exact .inr (by omega)
    · exact .inr (by omega)) (fun x hx => by
    rcases hx with hx | hx
    · exact h.lt.1 x (.inl (.inl hx))
    · exact hx.2) (fun hx => hx.elim hp.1 (fun hx => by omega))

/-- Growth where the world has turned in between, elsewhere. -/
theorem keep_grow {F : Nat → Prop} {w w1 w2 : World} (k1 : Keep F w w1) (k2 : Keep (grow F w w1) w1 w2) : Keep F w w2 :=
  k1.trans k2 (fun x hx => by
    rcases hx with hx | hx
    · exact .inl hx
    · exact .inr hx.1)

set_option maxHeartbeats 1000000 in
theorem giveBack_any {w : World} {F : Nat → Prop} {p s : Nat} {S : Sto} {size : Nat} {T T' : List Nat} (h : IsFile w F p s S size T) (hT' : T'.length = 203) {tb : Nat} (h4 : w.heap[tb]? = some (.cells (tabL T').toArray 56 (0, 0))) (hF : ¬ F tb) (hn : (givenL T T' 203).Nodup) (hm : ∀ x ∈ givenL T T' 203, S.f x ≠ none) :
    Calls Try.prog 53 #[.pointer (some ⟨p, 0, none⟩), .pointer (some ⟨tb, 0, none⟩)] w fun e w' => e = .returned (.tuple #[]) ∧ IsFile w' (grow F w w') p s (S.without (givenL T T' 203)) size T ∧ Keep F w w' := by
  have H := Lib.hid h; have H4 := Lib.hid h4; have HN := Lib.hid hn; have HM := Lib.hid hm
  have hT := h.len
  have HR := Lib.hid h.range
  have H0 : Hid (IsFile w (grow F w w) p s (S.without (givenL T T' 0)) size T) := Lib.hid (by rw [givenL_zero, Sto.without_nil]; exact h.same)
  clear h h4 hn hm
  go_enter Try.func53, Try.ntmps53
  go_wp2_with (refine wpList_load_tab rfl _ rfl p 2 T hT rfl HR.out ?_)
  go_loopw [10] (fun i wr => GbR w F p s S size T T' i wr) (fun i _ => 203 - (intOf i).toNat)
  case atStart => exact ⟨0, by omega, rfl, H0.out, Keep.refl _ w⟩
  case round =>
    obtain ⟨k, hk, rfl, hI, hK⟩ := hrel.ex
    have HI := Lib.hid hI; have HK := Lib.hid hK
    clear hI hK
    by_cases hlt : k < 203
    · have hd : decide ((k : Int) < 203) = true := by rw [decide_eq_true_eq]; omega
      have c1 := tab_cell ((HK.out.block tb (lt_of_block H4.out) hF).trans H4.out) k (by omega)
      by_cases h0 : tg T k = 0
      · by_cases h1 : tg T' k = 0
        · rw [h1] at c1
          have HG := Lib.hid (givenL_skip (T := T) (T' := T') (k := k) (.inr h1))
          have hix : ∀ {ops : Array Oper} {rest : List Oper} {o : Oper} {a : Act} {w : World} {Q : Exit → Act → World → Prop}, o.guard = none → ∀ (x y : Operand), o.op = .index 56 x y → a.eval x = .agg (tabL T).toArray → a.eval y = .int .i64 (k : Int) → wpList Try.prog ops Q rest (a.put o.dst (.int .u32 0)) w → wpList Try.prog ops Q (o :: rest) a w := fun hg x y ho hx hy h => wpList_index_tab hg x y ho T k hlt hT hx hy (by rw [h0]; exact h)
          go_wp2_with (first | refine hix rfl _ _ rfl rfl rfl ?_ | (go_at_call 57; refine (free_zero p).mono ?_; rintro e w1 ⟨rfl, k1⟩; have K1 := Lib.hid k1; clear k1))
          go_roundw
          case rel => exact ⟨k + 1, by omega, by go_num, by rw [HG.out]; exact (HI.out.keep0 K1.out).wide (fun x hx => hx.imp id (fun hx => ⟨hx.1, by have := K1.out.size; omega⟩)) (fun x hx => hx.elim (fun hx => by have := HI.out.lt.1 x (.inl hx); have := K1.out.size; omega) (fun hx => hx.2)) (fun hx => hx.elim H.out.pF (fun hx => by have := H.out.lt.2; omega)), HK.out.trans K1.out (fun _ h => h.elim)⟩
          case measure => simp [intOf]; omega
        · have hst := givenL_step h0 h1
          obtain ⟨m, hm⟩ := givenL_pre T T' (k + 1) (203 - (k + 1))
          rw [show k + 1 + (203 - (k + 1)) = 203 by omega, hst] at hm
          have hnd := HN.out
          have hmm := HM.out (tg T' k) (by rw [hm]; simp)
          rw [hm] at hnd
          have hni : tg T' k ∉ givenL T T' k := fun hx => by
            have := (List.nodup_append.1 (List.nodup_append.1 hnd).1).2.2 _ hx _ (List.mem_singleton.2 rfl)
            exact this rfl
          obtain ⟨l0, hl0⟩ := Option.ne_none_iff_exists'.1 hmm
          have hfr := free_any HI.out (n := tg T' k) (l0 := l0) (by simp [Sto.without, hni, hl0])
          rw [Sto.without_snoc, ← hst] at hfr
          have HFR := Lib.hid hfr
          have hix : ∀ {ops : Array Oper} {rest : List Oper} {o : Oper} {a : Act} {w : World} {Q : Exit → Act → World → Prop}, o.guard = none → ∀ (x y : Operand), o.op = .index 56 x y → a.eval x = .agg (tabL T).toArray → a.eval y = .int .i64 (k : Int) → wpList Try.prog ops Q rest (a.put o.dst (.int .u32 0)) w → wpList Try.prog ops Q (o :: rest) a w := fun hg x y ho hx hy h => wpList_index_tab hg x y ho T k hlt hT hx hy (by rw [h0]; exact h)
          clear hst hm hnd hmm hni hl0 hfr h1
          generalize tg T' k = v at *
          go_wp2_with (first | refine hix rfl _ _ rfl rfl rfl ?_ | (go_at_call 57; refine HFR.out.mono ?_; rintro e w1 ⟨rfl, h1, k1⟩; have K1 := Lib.hid k1; have H1 := Lib.hid h1; clear k1 h1))
          go_roundw
          case rel => exact ⟨k + 1, by omega, by go_num, H1.out.grown HK.out.size K1.out.size ⟨H.out.pF, H.out.lt.2⟩, keep_grow HK.out K1.out⟩
          case measure => simp [intOf]; omega
      · have HG := Lib.hid (givenL_skip (T := T) (T' := T') (k := k) (.inl h0))
        have hne : ((tg T k : Nat) : Int) ≠ 0 := by omega
        have hix : ∀ {ops : Array Oper} {rest : List Oper} {o : Oper} {a : Act} {w : World} {Q : Exit → Act → World → Prop}, o.guard = none → ∀ (x y : Operand), o.op = .index 56 x y → a.eval x = .agg (tabL T).toArray → a.eval y = .int .i64 (k : Int) → wpList Try.prog ops Q rest (a.put o.dst (.int .u32 ((tg T k : Nat) : Int))) w → wpList Try.prog ops Q (o :: rest) a w := fun hg x y ho hx hy h => wpList_index_tab hg x y ho T k hlt hT hx hy h
        clear c1 h0
        generalize tg T k = v at *
        have hb : ((v : Int) == 0) = false := by simpa using hne
        go_wp2_with (first | refine hix rfl _ _ rfl rfl rfl ?_)
        go_roundw
        case rel => exact ⟨k + 1, by omega, by go_num, by rw [HG.out]; exact HI.out, HK.out⟩
        case measure => simp [intOf]; omega
    · have hd : decide ((k : Int) < 203) = false := by rw [decide_eq_false_iff_not]; omega
      obtain rfl : k = 203 := by omega
      clear hlt
      go_wp2
      go_end0
      exact ⟨rfl, HI.out, HK.out⟩

end Go.Proofs.Ytejeadccpigepaa.Ino
