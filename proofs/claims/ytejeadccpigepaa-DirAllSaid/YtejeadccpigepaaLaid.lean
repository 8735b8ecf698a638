/- Files on blocks: laid. -/
import Derived.Test.YtejeadccpigepaaGrown
namespace Go.Proofs.Ytejeadccpigepaa.Ino
open Go.RowKit Go.Maps Go.Proofs.Ytejeadccpigepaa
set_option maxRecDepth 100000

/-- What the block at a slot holds; zeros where there is none. -/
def blkOf (S : Sto) (T : List Nat) (k : Nat) : List UInt8 := if tg T k = 0 then zero512 else (S.f (tg T k)).getD []

def Held (S : Sto) (T : List Nat) : Prop := ∀ k, tg T k ≠ 0 → S.f (tg T k) ≠ none

theorem blkOf_len {w : World} {F : Nat → Prop} {p s : Nat} {S : Sto} {size : Nat} {T : List Nat} (h : IsFile w F p s S size T) (hH : Held S T) (k : Nat) : (blkOf S T k).length = 512 := by
  unfold blkOf
  split
  · exact zero512_len
  · rename_i hk
    obtain ⟨l, hl⟩ := Option.ne_none_iff_exists'.1 (hH k hk)
    obtain ⟨b, D, hs⟩ := h.sto
    rw [hl]; exact hs.len hl

theorem getk_any {w : World} {F : Nat → Prop} {p s : Nat} {S : Sto} {size : Nat} {T : List Nat} (h : IsFile w F p s S size T) (hH : Held S T) (k : Nat) :
    Calls Try.prog 38 #[.pointer (some ⟨p, 0, none⟩), .int .u32 ((tg T k : Nat) : Int)] w fun e w' => e = .returned (.tuple #[.agg (blkC (blkOf S T k)), .nilIface]) ∧ Keep (fun _ => False) w w' := by
  by_cases hk : tg T k = 0
  · have e : blkOf S T k = zero512 := by rw [blkOf, if_pos hk]
    rw [e, hk]
    exact get_zero p
  · obtain ⟨l, hl⟩ := Option.ne_none_iff_exists'.1 (hH k hk)
    have e : blkOf S T k = l := by rw [blkOf, if_neg hk, hl]; rfl
    rw [e]
    exact get_any h hl

/-- X put over a block, from a byte on. -/
def over (B : List UInt8) (r : Nat) (X : List UInt8) : List UInt8 := B.take r ++ X ++ B.drop (r + X.length)

theorem over_len {B X : List UInt8} {r : Nat} (h : r + X.length ≤ B.length) : (over B r X).length = B.length := by simp [over]; omega

/-- The changes by which b stands at a place. -/
def laidL (S : Sto) (T : List Nat) : Nat → Nat → List UInt8 → List Chg
  | 0, _, _ => []
  | f + 1, at_, b => if b = [] then [] else ⟨at_ / 512, blkOf S T (at_ / 512), over (blkOf S T (at_ / 512)) (at_ % 512) (b.take (512 - at_ % 512))⟩ :: laidL S T f (at_ + (b.take (512 - at_ % 512)).length) (b.drop (b.take (512 - at_ % 512)).length)

section
variable {ops : Array Oper} {rest : List Oper} {o : Oper} {a : Act} {w : World} {Q : Exit → Act → World → Prop}

/-- A block's variable: made, and stored into. -/
theorem wpList_var_blk {o2 : Oper} {Z : Array Value} (hz : Hid (∀ w : World, (zeroValue 85).run Try.prog w = .ok (.agg Z) w)) (hs : Z.size = 512) (hg : o.guard = none) (ho : o.op = .alloc 85) (hg2 : o2.guard = none) (x y : Operand) (ho2 : o2.op = .store 85 x y) (B : List UInt8) (hB : B.length = 512)
    (hx : (a.put o.dst (.pointer (some ⟨w.heap.size, 0, none⟩))).eval x = .pointer (some ⟨w.heap.size, 0, none⟩)) (hy : (a.put o.dst (.pointer (some ⟨w.heap.size, 0, none⟩))).eval y = .agg (blkC B))
    (h : wpList Try.prog ops Q rest ((a.put o.dst (.pointer (some ⟨w.heap.size, 0, none⟩))).put o2.dst undef) (w.alloc (.cells (blkC B) 85))) : wpList Try.prog ops Q (o :: o2 :: rest) a w := by
  refine wpList_plain hg fun K hK => ?_
  unfold Oper.wp execOp
  simp only [ho, Sem.run_bind, Instr.alloc, hz.out w, Result.andThen_ok, newVar, newRow, run_newObj_alloc, Sem.run_pure, Value.cells]
  refine hK _ _ ?_
  refine wpList_store_row hg2 85 x y ho2 w.heap.size (blkC B) hx hy _ Z (heap_alloc_new w _) (by rw [blkC_size, hB]; exact Try.infoBlk) (by rw [hs, blkC_size, hB]) (blkC_one B) ?_
  rw [setRow_fresh]
  exact h

end

theorem slBlkAt (g off k : Nat) (hk : k < 512) (w : World) : (Instr.sliceAt 85 (.pointer (some ⟨g, off, none⟩)) (some (.int .i64 (k : Int))) none none).run Try.prog w = .ok (.slice (some ⟨g, off + k, none⟩) (512 - k) (512 - k)) w := by
  obtain ⟨i, hi, hsz⟩ := Option.map_eq_some_iff.1 Try.infoU1
  have hru : (sizeOf 5).run Try.prog w = .ok 1 w := by simp [sizeOf, run_typeInfo w hi, hsz]
  have h1 : (0 : Int) ≤ (k : Int) ∧ (k : Int) ≤ ((512 : Nat) : Int) := by omega
  have h3 : ¬ 512 = k := by omega
  simp only [Instr.sliceAt, Sem.run_bind, run_underlying Try.underlying85, Instr.sureAddr, Instr.sliceBounds, Sem.run_pure, Result.andThen_ok, Instr.sliceBound, asIntOf, if_pos h1, hru, Int.toNat_natCast, if_neg h3, Addr.add, Nat.mul_one]
  by_cases hk0 : k = 0 <;> simp [hk0]

theorem size_setCells (g : Nat) : ∀ (vs : List Value) (o : Nat) (w : World), (w.setCells g o vs).heap.size = w.heap.size
  | [], _, _ => rfl
  | v :: r, o, w => by
    have := size_setCells g r (o + 1) (w.setCell ⟨g, o, none⟩ v)
    simp only [World.setCells]
    rw [this]; simp

theorem Chg.splice (k : Nat) {A B X : List UInt8} {r : Nat} (hA : A.length = 512) : Go.splice (Chg.mk k A B).cells (513 + r) (bcells X) = (Chg.mk k A (over B r X)).cells := by
  have e : Chg.cells ⟨k, A, B⟩ = (.int .i64 (k : Int) :: bcells A) ++ bcells B := rfl
  have hl : (Value.int .i64 (k : Int) :: bcells A).length = 513 := by simp [bcells_length, hA]
  rw [Go.splice, e, List.take_append, hl, List.take_of_length_le (by omega), List.drop_append, hl, List.drop_eq_nil_of_le (by rw [hl]; omega), Nat.add_sub_cancel_left, List.nil_append, show 513 + r + (bcells X).length - 513 = r + X.length by rw [bcells_length]; omega]
  simp only [Chg.cells, over, bcells, List.map_append, List.map_take, List.map_drop, List.cons_append, List.append_assoc]

section
variable {ops : Array Oper} {rest : List Oper} {o : Oper} {a : Act} {w : World} {Q : Exit → Act → World → Prop}

/-- Bytes copied into what a change's block shall hold. -/
theorem wpList_copy_chg (hg : o.guard = none) (d s : Operand) (ho : o.op = .call { callee := .builtin .copy, args := #[d, s], argTypes := #[71, 71] }) (g r k : Nat) (A B : List UInt8) (hA : A.length = 512) (hB : B.length = 512) (b X : List UInt8) (hX : Hid (X = b.take (512 - r))) (hr : r < 512) (m : Nat) (hm : X.length = m) {g0 o0 n cap : Nat} (hn : b.length = n)
    (hd : a.eval d = .slice (some ⟨g, 513 + r, none⟩) (512 - r) (512 - r)) (hs : a.eval s = .slice (some ⟨g0, o0, none⟩) n cap) (hsrc : Seen w 1 (.slice (some ⟨g0, o0, none⟩) n cap) n (bcells b)) (hn0 : 0 < n) {t : TypeId} (hS : w.heap[g]? = some (.cells (Chg.mk k A B).cells.toArray t (0, 0)))
    (h : ∀ w', w'.heap[g]? = some (.cells (Chg.mk k A (over B r X)).cells.toArray t (0, 0)) → Keep (fun x => x = g) w w' → w'.heap.size = w.heap.size → wpList Try.prog ops Q rest (a.put o.dst (.int .i64 (m : Int))) w') : wpList Try.prog ops Q (o :: rest) a w := by
  have hXl : X.length = Nat.min n (512 - r) := by rw [hX.out, List.length_take, hn, Nat.min_comm]
  have hle : X.length ≤ 512 - r := by rw [hXl]; exact Nat.min_le_right _ _
  have hsz : (Chg.mk k A B).cells.length = 1025 := by simp [Chg.cells, bcells_length, hA, hB]
  obtain ⟨hl1, ad, cap', e, _, _, hcl⟩ := hsrc
  simp only [Value.slice.injEq] at e
  obtain ⟨rfl, -, rfl⟩ := e
  obtain ⟨g1, o1, e, _, hcl⟩ := hcl.resolve_left (by omega)
  simp only [Option.some.injEq, Addr.mk.injEq, and_true] at e
  obtain ⟨rfl, rfl⟩ := e
  have hxc : bcells X = (bcells b).take (512 - r) := by rw [hX.out]; simp [bcells, List.map_take]
  refine wpList_copy_cells hg d s ho Try.underlying71 Try.infoU1 hd hs (bcells X) (by rw [bcells_length, hXl]) (fun j v hv => ?_) (fun j hj => ?_) (bcells_one X) ?_
  · have := hcl j v (by
      rw [hxc, List.getElem?_take] at hv
      split at hv
      · exact hv
      · simp at hv)
    rw [add_off]; exact this
  · rw [bcells_length] at hj
    refine ⟨?_, frozen_of_row _ _ _ _ _ hS⟩
    rw [cell_of_row _ _ _ _ _ _ hS, List.getElem?_toArray, List.getElem?_eq_getElem (by rw [hsz]; omega)]
    rfl
  · have hlen : (goInt (bcells X).length : Value) = .int .i64 (m : Int) := by rw [bcells_length, hm]; rfl
    rw [hlen]
    obtain ⟨cur', h1, h2⟩ := splice_heap g (bcells X) (513 + r) w _ _ _ hS (by rw [bcells_length, List.size_toArray, hsz]; omega)
    have h3 : cur' = (Chg.mk k A (over B r X)).cells.toArray := by
      rw [← Chg.splice k hA]
      apply Array.ext'
      rw [h2]
    rw [h3] at h1
    exact h _ h1 (keep_setCells g _ _ _ (Keep.refl _ w) (.inl rfl)) (size_setCells g _ _ _)

end

theorem IsFile.num {w : World} {F : Nat → Prop} {p s : Nat} {S : Sto} {size : Nat} {T : List Nat} (h : IsFile w F p s S size T) (k : Nat) (hk : k < 203) : w.cell? ⟨p, 2 + k, none⟩ = some (.int .u32 ((tg T k : Nat) : Int)) := by
  have := h.range k _ (tabL_tg T k (by rw [h.len]; exact hk))
  exact this

theorem laidL_nil (S : Sto) (T : List Nat) (f a : Nat) : laidL S T f a [] = [] := by cases f <;> simp [laidL]

theorem laidL_fuel (S : Sto) (T : List Nat) : ∀ (f a : Nat) (b : List UInt8) (g : Nat), b.length ≤ f → b.length ≤ g → laidL S T f a b = laidL S T g a b
  | 0, a, b, g, h1, _ => by
    have e : b = [] := List.eq_nil_of_length_eq_zero (by omega)
    subst e
    rw [laidL_nil, laidL_nil]
  | f + 1, a, b, g, h1, h2 => by
    by_cases e : b = []
    · subst e; rw [laidL_nil, laidL_nil]
    · have hp := List.length_pos_iff.2 e
      obtain ⟨g', rfl⟩ : ∃ g', g = g' + 1 := ⟨g - 1, by omega⟩
      have hm : 0 < (b.take (512 - a % 512)).length := by
        have := Nat.mod_lt a (show 0 < 512 by omega)
        rw [List.length_take]; omega
      rw [laidL, laidL, if_neg e, if_neg e]
      congr 1
      exact laidL_fuel S T f _ _ g' (by rw [List.length_drop]; omega) (by rw [List.length_drop]; omega)

theorem laidL_step {S : Sto} {T : List Nat} {a k r m : Nat} {b B X : List UInt8} (hb : 0 < b.length) (hk : k = a / 512) (hr : r = a % 512) (hB : B = blkOf S T k) (hX : X = b.take (512 - r)) (hm : X.length = m) (hm0 : 0 < m) :
    laidL S T b.length a b = ⟨k, B, over B r X⟩ :: laidL S T (b.drop m).length (a + m) (b.drop m) := by
  subst hk hr hB hX hm
  obtain ⟨n, hn⟩ : ∃ n, b.length = n + 1 := ⟨b.length - 1, by omega⟩
  have e : b ≠ [] := fun e => by subst e; simp at hb
  rw [hn, laidL, if_neg e]
  congr 1
  exact laidL_fuel S T n _ _ _ (by rw [List.length_drop]; omega) (Nat.le_refl _)

/-- The bytes from the m-th on. -/
theorem Seen.from {w : World} {g o n cap m : Nat} {xs : List Value} (h : Seen w 1 (.slice (some ⟨g, o, none⟩) n cap) n xs) (hm : m ≤ n) : Seen w 1 (.slice (if cap = m then some ⟨g, o, none⟩ else some ⟨g, o + m, none⟩) (n - m) (cap - m)) (n - m) (xs.drop m) := by
  obtain ⟨h1, ad, cap', e, h2, h3, h4⟩ := h
  simp only [Value.slice.injEq] at e
  obtain ⟨rfl, -, rfl⟩ := e
  refine ⟨by rw [List.length_drop]; omega, _, _, rfl, by omega, by omega, ?_⟩
  by_cases hz : n - m = 0
  · exact .inl hz
  · obtain ⟨g', o', e, h5, h6⟩ := h4.resolve_left (by omega)
    simp only [Option.some.injEq, Addr.mk.injEq, and_true] at e
    obtain ⟨rfl, rfl⟩ := e
    rw [if_neg (by omega)]
    refine .inr ⟨g, o + m, rfl, h5, fun j u hu => ?_⟩
    rw [List.getElem?_drop] at hu
    rw [Nat.add_assoc]
    exact h6 _ _ hu

structure LaidR (w : World) (S : Sto) (T : List Nat) (at_ : Nat) (b : List UInt8) (iv bv lv : Value) (wr : World) : Prop where
  ex : ∃ (a' : Nat) (b' : List UInt8) (l : List Chg), iv = .int .i64 (a' : Int) ∧ Seen wr 1 bv b'.length (bcells b') ∧ ChgsAt wr lv l ∧ l ++ laidL S T b'.length a' b' = laidL S T b.length at_ b ∧ l.length + b'.length ≤ b.length ∧ a' + b'.length = at_ + b.length ∧ Keep (fun _ => False) w wr ∧ (∀ x, lv.ownBlock = some x → w.heap.size ≤ x) ∧ (b'.length = 0 ∨ ∀ x, bv.ownBlock = some x → x < w.heap.size)

theorem laid_round {w wr w4 w6 : World} {S : Sto} {T : List Nat} {at_ a' k r m : Nat} {b b' B X : List UInt8} {l : List Chg} {u8 v6 : Value} {g0 o0 cap : Nat} (HS : Seen wr 1 (.slice (some ⟨g0, o0, none⟩) b'.length cap) b'.length (bcells b')) (HL : l ++ laidL S T b'.length a' b' = laidL S T b.length at_ b)
    (hn : l.length + b'.length ≤ b.length) (hab : a' + b'.length = at_ + b.length) (HK : Keep (fun _ => False) w wr) (HO : ∀ x, u8.ownBlock = some x → w.heap.size ≤ x) (hpos : 0 < b'.length) (hg : g0 < w.heap.size) (HKK : k = a' / 512) (HRR : r = a' % 512) (HBB : B = blkOf S T k) (HX : X = b'.take (512 - r)) (HM : X.length = m) (hm1 : m ≤ 512 - r ∧ m ≤ b'.length ∧ 0 < m)
    (HKW : Keep (fun _ => False) wr w4) {ob : Obj} (H6 : ChgsAt w6 v6 (l ++ [⟨k, B, over B r X⟩])) (K6 : Keep (fun b => u8.ownBlock = some b) (w4.alloc ob) w6) (F6 : ∀ b, v6.ownBlock = some b → u8.ownBlock = some b ∨ ((w4.alloc ob).heap.size ≤ b ∧ b < w6.heap.size)) :
    LaidR w S T at_ b (.int .i64 ((a' : Int) + (m : Int))) (.slice (if cap = m then some ⟨g0, o0, none⟩ else some ⟨g0, o0 + m, none⟩) (b'.length - m) (cap - m)) v6 w6.drew := by
  have hst := laidL_step (S := S) (T := T) hpos HKK HRR HBB HX HM hm1.2.2
  have hK : Keep (fun _ => False) w w6.drew := ((HK.trans (HKW.alloc ob) (fun _ h => h.elim)).trans K6 (fun x e => .inr (HO x e))).drew
  have h1 := HK.size
  have h2 := HKW.size
  refine ⟨a' + m, b'.drop m, l ++ [⟨k, B, over B r X⟩], by go_num, ?_, H6.keep (F := fun _ => False) ((Keep.refl _ w6).drew) (fun _ _ h => h), ?_, ?_, ?_, hK, fun x hx => ?_, .inr fun x hx => ?_⟩
  · have h := Seen.from (m := m) HS hm1.2.1
    rw [List.length_drop, show bcells (b'.drop m) = (bcells b').drop m by simp [bcells, List.map_drop]]
    by_cases hz : b'.length - m = 0
    · obtain ⟨h1, ad, cap', e, h2, h3, h4⟩ := h
      exact ⟨h1, ad, cap', e, h2, h3, .inl hz⟩
    · refine h.keep (F := fun x => w.heap.size ≤ x) (((HKW.alloc ob).mono (fun _ _ h => h.elim)).trans K6 (fun x e => .inl (HO x e))).drew (fun x hx _ hle => ?_)
      have e : x = g0 := by
        split at hx <;> simpa [Value.ownBlock, eq_comm] using hx
      omega
  · rw [List.append_assoc, ← HL, hst]; rfl
  · simp only [List.length_append, List.length_singleton, List.length_drop]; omega
  · rw [List.length_drop]; omega
  · rcases F6 x hx with h | h
    · exact HO x h
    · have := h.1; simp at this; omega
  · have e : x = g0 := by
      split at hx <;> simpa [Value.ownBlock, eq_comm] using hx
    omega

set_option maxHeartbeats 1000000 in
theorem laid_any {w : World} {F : Nat → Prop} {p s : Nat} {S : Sto} {size : Nat} {T : List Nat} (h : IsFile w F p s S size T) (hH : Held S T) (at_ : Nat) {v : Value} {b : List UInt8} (hb : Seen w 1 v b.length (bcells b)) (hl : b.length ≤ 50000) (ha : at_ + b.length ≤ 102400) :
    Calls Try.prog 41 #[.pointer (some ⟨p, 0, none⟩), .int .i64 (at_ : Int), v] w fun e w' => ∃ lv, e = .returned (.tuple #[lv, .nilIface]) ∧ ChgsAt w' lv (laidL S T b.length at_ b) ∧ Keep (fun _ => False) w w' ∧ ∀ x, lv.ownBlock = some x → w.heap.size ≤ x := by
  have H := Lib.hid h; have HB := Lib.hid hb; have HH := Lib.hid hH
  obtain ⟨Z, hzv, hz5, hz1, HZ⟩ := z512
  have HZV := Lib.hid hzv
  clear h hb hH hzv
  obtain ⟨n0, hn0⟩ : ∃ n, n = b.length := ⟨_, rfl⟩
  go_enter Try.func41, Try.ntmps41
  go_wp2_with fail
  go_loopw [1, 2, 8] (fun iv bv lv wr => LaidR w S T at_ b iv bv lv wr) (fun iv _ _ _ => at_ + b.length - (intOf iv).toNat)
  case atStart => exact ⟨at_, b, [], rfl, HB.out, ChgsAt.nil w, rfl, by simp, rfl, Keep.refl _ w, fun x hx => by simp [Value.ownBlock] at hx, by
    obtain ⟨_, ad, cap, rfl, _, _, h⟩ := HB.out
    rcases h with h | ⟨g, o, rfl, hg, _⟩
    · exact .inl h
    · exact .inr fun x hx => by simp [Value.ownBlock] at hx; omega⟩
  case round =>
    obtain ⟨a', b', l, rfl, hS, hC, hL, hn, hab, hK, hO, hbo⟩ := hrel.ex
    have HS := Lib.hid hS; have HC := Lib.hid hC; have HL := Lib.hid hL; have HK := Lib.hid hK; have HO := Lib.hid hO
    by_cases h0 : b'.length = 0
    · have e : b' = [] := List.eq_nil_of_length_eq_zero h0
      subst e
      obtain ⟨_, ad, cap, rfl, _, _, _⟩ := hS
      clear hC hL hK hO h0
      simp only [List.length_nil]
      go_wp2_with fail
      have hll := HL.out
      simp only [List.length_nil, laidL, List.append_nil] at hll
      go_ret2
      exact ⟨_, rfl, hll ▸ HC.out, HK.out, HO.out⟩
    · obtain ⟨_, ad, cap, rfl, hc1, hc2, hsn⟩ := hS
      obtain ⟨g0, o0, rfl, hg0, hcl⟩ := hsn.resolve_left h0
      have hpos : 0 < b'.length := by omega
      have hg1 : g0 < w.heap.size := hbo.resolve_left h0 g0 (by simp [Value.ownBlock])
      clear hbo
      have hab2 : a' ≤ 102400 := by omega
      have hk : a' / 512 < 200 := by omega
      have hr : a' % 512 < 512 := Nat.mod_lt _ (by omega)
      have HIR := Lib.hid (H.out.keep0 HK.out)
      have hd : decide ((0 : Int) < (b'.length : Int)) = true := by rw [decide_eq_true_eq]; omega
      have hlaid : ∃ f, b'.length = f + 1 := ⟨b'.length - 1, by omega⟩
      obtain ⟨k, hkk⟩ : ∃ k, k = a' / 512 := ⟨_, rfl⟩
      obtain ⟨r, hrr⟩ : ∃ r, r = a' % 512 := ⟨_, rfl⟩
      have hq : (a' : Int) / 512 = (k : Int) := by omega
      have hm : (a' : Int) % 512 = (r : Int) := by omega
      rw [← hkk] at hk
      rw [← hrr] at hr
      have c1 := HIR.out.num k (by omega)
      have HGT := Lib.hid (getk_any HIR.out HH.out k)
      have HBL := Lib.hid (blkOf_len HIR.out HH.out k)
      obtain ⟨B, hB⟩ : ∃ B, B = blkOf S T k := ⟨_, rfl⟩
      have HBB := Lib.hid hB
      rw [← hB] at HGT HBL
      generalize tg T k = num at *
      have HKK := Lib.hid hkk; have HRR := Lib.hid hrr
      clear hB hC hL hK hO h0 hcl hsn hkk hrr
      have HOK : Hid (Chg.Ok ⟨k, B, over B r (b'.take (512 - r))⟩) := Lib.hid ⟨by simp only; omega, HBL.out, by simp only; rw [over_len (by rw [HBL.out, List.length_take]; omega), HBL.out]⟩
      have hsl := fun (g : Nat) (w : World) => slBlkAt g 513 r hr w
      obtain ⟨X, hX⟩ : ∃ X, X = b'.take (512 - r) := ⟨_, rfl⟩
      obtain ⟨m, hmm⟩ : ∃ m, X.length = m := ⟨_, rfl⟩
      have hm1 : m ≤ 512 - r ∧ m ≤ b'.length ∧ 0 < m := by rw [← hmm, hX, List.length_take]; omega
      rw [← hX] at HOK
      have HX := Lib.hid hX
      have HM := Lib.hid hmm
      clear hX hmm
      go_wp2_with (first | (go_at_call 38; refine HGT.out.mono ?_; rintro e w1 ⟨rfl, k1⟩; have K1 := Lib.hid k1; clear k1) | (refine wpList_var_blk HZV hz5 rfl rfl rfl _ _ rfl B HBL.out rfl rfl ?_) | (refine wpList_load_blkC rfl _ rfl w1.heap.size _ (by rw [blkC_size, HBL.out]) rfl (heap_alloc_new w1 _) ?_) | (refine wpList_build_chg rfl _ _ _ rfl k B B HBL.out HBL.out rfl rfl rfl ?_) | (refine wpList_var_chg rfl rfl rfl _ _ rfl ⟨k, B, B⟩ ⟨by simp only; omega, HBL.out, HBL.out⟩ rfl rfl ?_) | (refine wpList_copy_chg rfl _ _ rfl (w1.heap.size + 1) r k B B HBL.out HBL.out b' X HX hr m HM.out rfl rfl rfl (HS.out.keep (((K1.out.alloc _).alloc _)) (fun _ _ _ h => h)) hpos (by have := heap_alloc_new (w1.alloc (.cells (blkC B) 85)) (.cells (Chg.mk k B B).cells.toArray 115); simpa using this) ?_; intro w4 h4 k4 s4; have H4 := Lib.hid h4; have K4 := Lib.hid k4; have S4 := Lib.hid s4; have HKW : Hid (Keep (fun _ => False) wr w4) := Lib.hid (((K1.out.alloc _).alloc _).trans k4 (fun x e => .inr (by have := K1.out.size; omega))); clear h4 k4 s4) | (refine wpList_load_chg rfl _ rfl (w1.heap.size + 1) ⟨k, B, over B r X⟩ HOK.out rfl H4.out ?_) | (refine wpList_one_chg rfl _ rfl ⟨k, B, over B r X⟩ HOK.out rfl ?_) | (refine wpList_append_chgs rfl _ _ rfl rfl (HC.out.keep (HKW.out.alloc _) (fun _ _ h => h)) rfl (ChgsAt.made w4 _ HOK.out) (by simp only [List.length_singleton]; omega) ?_; intro v6 w6 h6 k6 f6; have H6 := Lib.hid h6; have K6 := Lib.hid k6; have F6 := Lib.hid f6; clear h6 k6 f6))
      have hmc : m ≤ cap := by omega
      go_region
      go_roundw
      case rel => (repeat apply Exists.intro); exact ⟨laid_round HS.out HL.out hn hab HK.out HO.out hpos hg1 HKK.out HRR.out HBB.out HX.out HM.out hm1 HKW.out H6.out K6.out F6.out, rfl⟩
      case measure => simp [intOf]; omega

end Go.Proofs.Ytejeadccpigepaa.Ino
