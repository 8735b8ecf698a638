/- Laws of no program: a slice in memory read as a list of cells, wherever it lies in its block; what append, a store, make and copy do to it. -/
import Derived.Test.YtheaghgockafmaaGreatGen
import Derived.Deep.AppendSrc
import Derived.Laws.CopyOwn
import Derived.Deep.RegionLaw
namespace Go.Proofs.YtheaghgockafmaaGreat
open Go.RowKit

/-- The slice v of n elements (of size cells each, of type e) reads as the cells xs; its spare places may be written. -/
def Row (w : World) (e : TypeId) (size : Nat) (v : Value) (n : Nat) (xs : List Value) : Prop :=
  xs.length = n * size ∧
  ((v = .slice none 0 0 ∧ n = 0) ∨
   ∃ g off cap cur lo hi, v = .slice (some ⟨g, off, none⟩) n cap ∧ w.heap[g]? = some (.cells cur e (lo, hi)) ∧ n ≤ cap ∧ cap ≤ maxLen ∧ off + cap * size ≤ cur.size ∧
     (hi ≤ lo ∨ off + cap * size ≤ lo ∨ hi ≤ off) ∧ (cur.toList.drop off).take (n * size) = xs)

theorem Row.nil (w : World) (e : TypeId) (size : Nat) : Row w e size (.slice none 0 0) 0 [] := ⟨by simp, .inl ⟨rfl, rfl⟩⟩

theorem Row.of_owns {w : World} {b e size n : Nat} {v : Value} {xs : List Value} (h : w.ownsRow b e size v n xs) : Row w e size v n xs := by
  refine ⟨h.1, ?_⟩
  rcases h.2 with ⟨h1, h2⟩ | ⟨g, cap, cur, h1, _, h2, h3, h4, h5, h6⟩
  · exact .inl ⟨h1, h2⟩
  · exact .inr ⟨g, 0, cap, cur, 0, 0, h1, h2, h3, h4, by omega, .inl (Nat.le_refl _), by simpa using h6⟩

theorem Row.slice {w : World} {e size n : Nat} {v : Value} {xs : List Value} (h : Row w e size v n xs) : ∃ a cap, v = .slice a n cap ∧ n ≤ cap ∧ cap ≤ maxLen := by
  rcases h.2 with ⟨h1, h2⟩ | ⟨g, off, cap, cur, lo, hi, h1, _, h2, h3, _⟩
  · exact ⟨none, 0, by rw [h1, h2], by omega, by simp [maxLen]⟩
  · exact ⟨_, cap, h1, h2, h3⟩

theorem Row.full {w : World} {e size n : Nat} {v : Value} {xs : List Value} (h : Row w e size v n xs) (hn : 0 < n) : ∃ g off cap, v = .slice (some ⟨g, off, none⟩) n cap ∧ n ≤ cap ∧ cap ≤ maxLen := by
  rcases h.2 with ⟨h1, h2⟩ | ⟨g, off, cap, cur, lo, hi, h1, _, h2, h3, _⟩
  · omega
  · exact ⟨g, off, cap, h1, h2, h3⟩

theorem Row.lt {w : World} {e size n : Nat} {v : Value} {xs : List Value} (h : Row w e size v n xs) {k : Nat} (hk : v.ownBlock = some k) : k < w.heap.size := by
  rcases h.2 with ⟨h1, h2⟩ | ⟨g, off, cap, cur, lo, hi, h1, h2, _⟩
  · subst h1; simp [Value.ownBlock] at hk
  · subst h1; simp [Value.ownBlock] at hk; subst hk; exact lt_of_block h2

theorem Row.type {w : World} {e size n : Nat} {v : Value} {xs : List Value} (h : Row w e size v n xs) {b : Nat} (hb : v.ownBlock = some b) : ∃ cs f, w.heap[b]? = some (.cells cs e f) := by
  rcases h.2 with ⟨rfl, _⟩ | ⟨g, off, cap, cur, lo, hi, rfl, hg, _⟩
  · simp [Value.ownBlock] at hb
  · simp [Value.ownBlock] at hb; subst hb; exact ⟨cur, _, hg⟩

theorem Row.same {w w' : World} {e size n : Nat} {v : Value} {xs : List Value} (h : Row w e size v n xs) (hs : ∀ k, v.ownBlock = some k → w'.heap[k]? = w.heap[k]?) : Row w' e size v n xs := by
  refine ⟨h.1, ?_⟩
  rcases h.2 with hn | ⟨g, off, cap, cur, lo, hi, rfl, hgg, rest⟩
  · exact .inl hn
  · exact .inr ⟨g, off, cap, cur, lo, hi, rfl, by rw [hs g (by simp [Value.ownBlock])]; exact hgg, rest⟩

theorem Row.keep {F : Nat → Prop} {w w' : World} {e size n : Nat} {v : Value} {xs : List Value} (h : Row w e size v n xs) (hk : Keep F w w') (hF : ∀ k, v.ownBlock = some k → ¬ F k) : Row w' e size v n xs :=
  h.same (fun k e => hk.block k (h.lt e) (hF k e))

theorem Row.alloc {w : World} {e size n : Nat} {v : Value} {xs : List Value} (h : Row w e size v n xs) (o : Obj) : Row (w.alloc o) e size v n xs :=
  h.keep (F := fun _ => False) ((Keep.refl _ w).alloc o) (fun _ _ h => h)

theorem Row.drew {w : World} {e size n : Nat} {v : Value} {xs : List Value} (h : Row w e size v n xs) : Row w.drew e size v n xs := h

theorem Row.setCell {w : World} {e size n : Nat} {v : Value} {xs : List Value} (h : Row w e size v n xs) (a : Addr) (u : Value) (ha : v.ownBlock ≠ some a.block) : Row (w.setCell a u) e size v n xs :=
  h.same (fun k hk => Below.heap_setCell w a u k (fun e => ha (by rw [hk, e])))

section
variable {w : World} {e size n g off cap : Nat} {xs : List Value}

theorem Row.cellAt (h : Row w e size (.slice (some ⟨g, off, none⟩) n cap) n xs) (j : Nat) (hj : j < n * size) : w.cell? ⟨g, off + j, none⟩ = xs[j]? := by
  rcases h.2 with ⟨h', _⟩ | ⟨g', off', cap', cur, lo, hi, h', hg, _, _, _, _, htake⟩
  · simp at h'
  · simp only [Value.slice.injEq, Option.some.injEq, Addr.mk.injEq, and_true, true_and] at h'
    obtain ⟨⟨rfl, rfl⟩, rfl⟩ := h'
    rw [cell_of_row w g (off + j) cur e _ hg, ← htake, List.getElem?_take, if_pos hj, List.getElem?_drop]
    simp

theorem Row.there (h : Row w e size (.slice (some ⟨g, off, none⟩) n cap) n xs) (j : Nat) (hj : j < cap * size) : (w.cell? ⟨g, off + j, none⟩).isSome = true ∧ w.frozen? ⟨g, off + j, none⟩ = false := by
  rcases h.2 with ⟨h', _⟩ | ⟨g', off', cap', cur, lo, hi, h', hg, _, _, hs, hf, _⟩
  · simp at h'
  · simp only [Value.slice.injEq, Option.some.injEq, Addr.mk.injEq, and_true, true_and] at h'
    obtain ⟨⟨rfl, rfl⟩, rfl⟩ := h'
    refine ⟨?_, ?_⟩
    · rw [cell_of_row w g (off + j) cur e _ hg, Array.getElem?_eq_getElem (by omega)]; rfl
    · simp only [World.frozen?, hg, Bool.and_eq_false_iff, decide_eq_false_iff_not]
      omega

theorem heap_setCell_at {w : World} {g i : Nat} {cs : Array Value} {t : TypeId} {f : Nat × Nat} (v : Value) (hg : w.heap[g]? = some (.cells cs t f)) :
    (w.setCell ⟨g, i, none⟩ v).heap[g]? = some (.cells (cs.setIfInBounds i v) t f) := by
  simp [World.setCell, Array.getElem?_modify, hg]

theorem Row.stored (h : Row w e size (.slice (some ⟨g, off, none⟩) n cap) n xs) (j : Nat) (u : Value) :
    Row (w.setCell ⟨g, off + j, none⟩ u) e size (.slice (some ⟨g, off, none⟩) n cap) n (xs.set j u) := by
  rcases h.2 with ⟨h', _⟩ | ⟨g', off', cap', cur, lo, hi, h', hg, hnc, hcm, hs, hf, htake⟩
  · simp at h'
  · simp only [Value.slice.injEq, Option.some.injEq, Addr.mk.injEq, and_true, true_and] at h'
    obtain ⟨⟨rfl, rfl⟩, rfl⟩ := h'
    refine ⟨by simpa using h.1, .inr ⟨g, off, cap, _, lo, hi, rfl, heap_setCell_at u hg, hnc, hcm, by simpa using hs, hf, ?_⟩⟩
    rw [Array.toList_setIfInBounds, ← htake, List.drop_set, if_neg (by omega), List.take_set, Nat.add_sub_cancel_left]

end

theorem splice_heap (g : Nat) : ∀ (vs : List Value) (o : Nat) (w : World) (cur : Array Value) (e : TypeId) (f : Nat × Nat), w.heap[g]? = some (.cells cur e f) → o + vs.length ≤ cur.size →
    ∃ cur', (w.setCells g o vs).heap[g]? = some (.cells cur' e f) ∧ cur'.toList = splice cur.toList o vs
  | [], o, w, cur, e, f, hg, h => ⟨cur, hg, by simp [splice]⟩
  | v :: r, o, w, cur, e, f, hg, h => by
    simp only [List.length_cons] at h
    obtain ⟨cur', h1, h2⟩ := splice_heap g r (o + 1) (w.setCell ⟨g, o, none⟩ v) _ e f (heap_setCell_at v hg) (by simp; omega)
    refine ⟨cur', h1, ?_⟩
    rw [h2, Array.toList_setIfInBounds]
    unfold splice
    apply List.ext_getElem?
    intro k
    simp only [List.getElem?_append, List.getElem?_take, List.length_take, List.length_set, Array.length_toList, List.getElem?_set, List.length_cons, List.getElem?_drop]
    have e1 : min (o + 1) cur.size = o + 1 := by omega
    have e2 : min o cur.size = o := by omega
    rw [e1, e2]
    by_cases hk : k < o
    · simp [hk, show k < o + 1 by omega, show ¬ o = k by omega]
    · by_cases hk2 : k = o
      · subst hk2; simp [show k < cur.size by omega]
      · simp only [show ¬ k < o + 1 by omega, hk, if_false]
        by_cases hk3 : k - (o + 1) < r.length
        · rw [if_pos hk3, if_pos (by omega), List.getElem?_cons, if_neg (by omega)]
          congr 1
        · rw [if_neg hk3, if_neg (by omega), if_neg (by omega)]
          congr 1; omega

theorem keep_setCells {F : Nat → Prop} {w0 : World} (g : Nat) : ∀ (vs : List Value) (o : Nat) (w : World), Keep F w0 w → (F g ∨ w0.heap.size ≤ g) → Keep F w0 (w.setCells g o vs)
  | [], _, _, h, _ => h
  | v :: r, o, _, h, hg => keep_setCells g r (o + 1) _ (h.setCell ⟨g, o, none⟩ v hg) hg

theorem splice_window {α : Type} (L : List α) (off k m : Nat) (cs : List α) (hc : cs.length = m) (h : off + k + m ≤ L.length) :
    ((splice L (off + k) cs).drop off).take (k + m) = (L.drop off).take k ++ cs := by
  subst hc
  unfold splice
  apply List.ext_getElem?
  intro j
  simp only [List.getElem?_append, List.getElem?_take, List.length_take, List.getElem?_drop, List.length_drop]
  have e1 : min (off + k) L.length = off + k := by omega
  have e2 : min k (L.length - off) = k := by omega
  rw [e1, e2]
  by_cases h1 : j < k
  · simp [h1, show j < k + cs.length by omega, show off + j < off + k by omega]
  · by_cases h2 : j < k + cs.length
    · simp only [h2, h1, if_true, if_false, show ¬ off + j < off + k by omega, show off + j - (off + k) = j - k by omega, show j - k < cs.length by omega]
    · simp only [h2, h1, if_false]
      rw [List.getElem?_eq_none (by omega)]

section
variable {P : Program} (w : World)

/-- append on a row, from whatever source. -/
theorem run_append_row {t tx e : TypeId} (ty : TypeId) {i : TypeInfo} {z : Value} {size bytes : Nat} (ht : P.underlying t = some (.slice e)) (hi : P.info? e = some i) (hz : i.zero = some z)
    (hsize : i.size = size) (hby : i.bytes = bytes) (hzs : z.cells.size = size)
    {v : Value} {n : Nat} {xs : List Value} (h : Row w e size v n xs) {x : Value} {m : Nat} {news : List Value} (hs : Src P size tx x m news w)
    (h63 : n + m ≤ maxLen) (hbytes : (n + m) * bytes ≤ 140737488355328) :
    ∃ v' w', (Builtin.append_ #[t, tx] ty #[v, x]).run P w = .ok v' w' ∧ Row w' e size v' (n + m) (xs ++ news) ∧ Keep (fun b => v.ownBlock = some b) w w' ∧
      (∀ b, v'.ownBlock = some b → v.ownBlock = some b ∨ (w.heap.size ≤ b ∧ b < w'.heap.size)) ∧ (v' = .slice none 0 0 ↔ v = .slice none 0 0 ∧ m = 0) := by
  subst hsize
  subst hby
  have hlen : (xs ++ news).length = (n + m) * i.size := by rw [List.length_append, h.1, hs.newsLen, Nat.add_mul]
  have hsmall : n + m ≤ 9223372036854775807 := by simp only [maxLen] at h63; omega
  have grown : ∀ (old : Nat) (a : Option Addr), old < n + m → n ≤ old → (Builtin.firstCells i.size n (.slice a n old)).run P w.drew = .ok xs.toArray w.drew → v = .slice a n old →
      ∃ v' w', (Builtin.append_ #[t, tx] ty #[v, x]).run P w = .ok v' w' ∧ Row w' e i.size v' (n + m) (xs ++ news) ∧ Keep (fun b => v.ownBlock = some b) w w' ∧
      (∀ b, v'.ownBlock = some b → v.ownBlock = some b ∨ (w.heap.size ≤ b ∧ b < w'.heap.size)) ∧ (v' = .slice none 0 0 ↔ v = .slice none 0 0 ∧ m = 0) := by
    intro old a ho hno hold hv
    subst hv
    have hr := run_append_grow_src (P := P) w t tx ty e i z ht hi hz a n old xs hold x m news hs ho (by omega) (growslice_fits ho hbytes)
    have hge := grownCap_ge w (n + m) old e
    have hcm : grownCap w (n + m) old e ≤ maxLen := grownCap_le_maxLen w (n + m) old e h63
    refine ⟨_, _, hr, ⟨hlen, .inr ⟨w.heap.size, 0, _, _, 0, 0, rfl, heap_alloc_new w.drew _, hge, hcm, ?_, .inl (Nat.le_refl _), ?_⟩⟩, ((Keep.refl _ w).drew).alloc _, ?_, ?_⟩
    · simp only [Array.size_append, List.size_toArray, size_zeroCells, hzs, hlen, ← Nat.add_mul, Nat.zero_add]
      have : n + m + (grownCap w (n + m) old e - (n + m)) = grownCap w (n + m) old e := by omega
      rw [this]; exact Nat.le_refl _
    · simp only [Array.toList_append, List.drop_zero, ← hlen]
      exact List.take_left
    · intro b hb
      simp [Value.ownBlock] at hb
      subst hb
      exact .inr (by simp)
    · simp; intro _ h2 h3; subst h3; omega
  rcases h.2 with ⟨rfl, rfl⟩ | ⟨g, off, cap, cur, lo, hi', rfl, hg, hnc, hcm, hcs, hf, htake⟩
  · have hx : xs = [] := List.eq_nil_of_length_eq_zero (by simpa using h.1)
    subst hx
    by_cases hm : m = 0
    · subst hm
      have hn : news = [] := List.eq_nil_of_length_eq_zero (by simpa using hs.newsLen)
      subst hn
      refine ⟨.slice none 0 0, w, ?_, Row.nil w e i.size, Keep.refl _ w, fun b hb => .inl hb, by simp⟩
      rcases hs.kind with ⟨e', hk⟩ | hk <;>
        simp [Builtin.append_, run_underlying ht, run_underlying hk, sizeOf, typeInfo, hi, hs.len, hs.cells]
    · exact grown 0 none (by omega) (by omega) (by simp [Builtin.firstCells]) rfl
  · by_cases hroom : n + m ≤ cap
    · have hmul : n * i.size + m * i.size ≤ cap * i.size := by rw [← Nat.add_mul]; exact Nat.mul_le_mul_right _ hroom
      have hth : ∀ j, j < news.length → (w.cell? ⟨g, off + n * i.size + j, none⟩).isSome = true ∧ w.frozen? ⟨g, off + n * i.size + j, none⟩ = false := fun j hj => by
        have := h.there (n * i.size + j) (by rw [hs.newsLen] at hj; omega)
        rwa [← Nat.add_assoc] at this
      have hr := run_append_room_src (P := P) w t tx ty e i ht hi g off n cap x m news hs hroom (fun j hj => (hth j hj).1) (fun j hj => (hth j hj).2)
      obtain ⟨cur', h1, h2⟩ := splice_heap g news (off + n * i.size) w cur e (lo, hi') hg (by rw [hs.newsLen]; omega)
      have hsz : cur'.size = cur.size := by
        rw [← Array.length_toList, h2, length_splice _ _ _ (by simp only [Array.length_toList]; rw [hs.newsLen]; omega), Array.length_toList]
      refine ⟨_, _, hr, ⟨hlen, .inr ⟨g, off, cap, cur', lo, hi', rfl, h1, hroom, hcm, by omega, hf, ?_⟩⟩, keep_setCells g _ _ _ (Keep.refl _ w) (.inl (by simp [Value.ownBlock])), fun b hb => .inl (by simpa [Value.ownBlock] using hb), by simp⟩
      rw [h2, Nat.add_mul, splice_window _ _ _ _ _ hs.newsLen (by simp only [Array.length_toList]; omega), htake]
    · refine grown cap _ (by omega) hnc ?_ rfl
      refine run_firstCells_some w.drew i.size n _ n cap xs h.1 (fun j u hu => ?_)
      have hj : j < n * i.size := by rw [← h.1]; exact (List.getElem?_eq_some_iff.1 hu).1
      rw [add_off, World.cell?_drew, h.cellAt j hj, hu]

theorem wpList_append_row {ops : Array Oper} {rest : List Oper} {o : Oper} {a : Act} {Q : Exit → Act → World → Prop} (hgd : o.guard = none) (s x : Operand) {t tx : TypeId}
    (ho : o.op = .call { callee := .builtin .append, args := #[s, x], argTypes := #[t, tx] })
    {e : TypeId} {i : TypeInfo} {z : Value} {size bytes : Nat} (ht : P.underlying t = some (.slice e)) (hi : P.info? e = some i) (hz : i.zero = some z)
    (hsize : i.size = size) (hby : i.bytes = bytes) (hzs : z.cells.size = size)
    {v : Value} {n : Nat} {xs : List Value} (hv : a.eval s = v) (h : Row w e size v n xs) {vx : Value} (hx : a.eval x = vx) {m : Nat} {news : List Value} (hs : Src P size tx vx m news w)
    (h63 : n + m ≤ maxLen) (hbytes : (n + m) * bytes ≤ 140737488355328)
    (hK : ∀ v' w', Row w' e size v' (n + m) (xs ++ news) → Keep (fun b => v.ownBlock = some b) w w' → (∀ b, v'.ownBlock = some b → v.ownBlock = some b ∨ (w.heap.size ≤ b ∧ b < w'.heap.size)) →
      (v' = .slice none 0 0 ↔ v = .slice none 0 0 ∧ m = 0) → wpList P ops Q rest (a.put o.dst v') w') : wpList P ops Q (o :: rest) a w := by
  refine wpList_plain hgd fun K hK' => ?_
  obtain ⟨v', w', hr, h2, h3, h4, h5⟩ := run_append_row (P := P) w o.type ht hi hz hsize hby hzs h hs h63 hbytes
  unfold Oper.wp execOp
  simp only [ho, resolve, invoke, builtin, Sem.run_bind, Sem.run_pure, Result.andThen_ok, List.map_toArray, List.map_cons, List.map_nil, hv, hx, hr]
  exact hK' _ _ (hK v' w' h2 h3 h4 h5)

end

/-- A literal slice that has just been made, as a source. -/
theorem Src.lit {P : Program} {w : World} {size : Nat} {t e tx : TypeId} (ht : P.underlying tx = some (.slice e)) (cs : Array Value) (b n c : Nat) (hb : b = w.heap.size) (hn : cs.size = n * size) (h1 : ∀ u ∈ cs.toList, u.oneCell' = true) :
    Src P size tx (.slice (some ⟨b, 0, none⟩) n c) n cs.toList (w.alloc (.cells cs t)) := by
  subst hb
  refine Src.ofSlice (w.alloc (.cells cs t)) ht _ n c cs.toList (by simpa using hn) (fun j u hu => ?_) h1
  rw [add_off, Nat.zero_add, World.cell?_alloc_new]
  simpa using hu

/-- A literal slice that has just been made, as a row. -/
theorem Row.made {w : World} {e size : Nat} (cs : Array Value) (b n : Nat) (hb : b = w.heap.size) (hm : n ≤ maxLen) (hs : cs.size = n * size) : Row (w.alloc (.cells cs e)) e size (.slice (some ⟨b, 0, none⟩) n n) n cs.toList := by
  subst hb
  exact Row.of_owns (World.ownsRow_lit (base := 0) w cs n (Nat.zero_le _) hm hs)

theorem Row.src {P : Program} {w : World} {e size n : Nat} {v : Value} {xs : List Value} {tx e' : TypeId} (h : Row w e size v n xs) (ht : P.underlying tx = some (.slice e')) (h1 : ∀ u ∈ xs, u.oneCell' = true) : Src P size tx v n xs w := by
  rcases h.2 with ⟨rfl, rfl⟩ | ⟨g, off, cap, cur, lo, hi, rfl, hg, _⟩
  · have : xs = [] := List.eq_nil_of_length_eq_zero (by simpa using h.1)
    subst this
    exact Src.ofNil w ht 0
  · refine Src.ofSlice w ht _ n cap xs h.1 (fun j u hu => ?_) h1
    have hj : j < n * size := by rw [← h.1]; exact (List.getElem?_eq_some_iff.1 hu).1
    rw [add_off, h.cellAt j hj, hu]

/-- The slice v reads as the cells xs; whether it may be written is not said. -/
def Seen (w : World) (size : Nat) (v : Value) (n : Nat) (xs : List Value) : Prop :=
  xs.length = n * size ∧ ∃ a cap, v = .slice a n cap ∧ n ≤ cap ∧ cap ≤ maxLen ∧ (n = 0 ∨ ∃ g off, a = some ⟨g, off, none⟩ ∧ g < w.heap.size ∧ ∀ j u, xs[j]? = some u → w.cell? ⟨g, off + j, none⟩ = some u)

theorem Seen.nil (w : World) (size : Nat) : Seen w size (.slice none 0 0) 0 [] := ⟨by simp, none, 0, rfl, Nat.le_refl _, by simp [maxLen], .inl rfl⟩

theorem Seen.keep {F : Nat → Prop} {w w' : World} {size n : Nat} {v : Value} {xs : List Value} (h : Seen w size v n xs) (hk : Keep F w w') (hF : ∀ b, v.ownBlock = some b → b < w.heap.size → ¬ F b) : Seen w' size v n xs := by
  obtain ⟨h1, a, cap, rfl, h2, h3, h4⟩ := h
  refine ⟨h1, a, cap, rfl, h2, h3, ?_⟩
  rcases h4 with h4 | ⟨g, off, rfl, hg, hc⟩
  · exact .inl h4
  · exact .inr ⟨g, off, rfl, Nat.lt_of_lt_of_le hg hk.size, fun j u hu => by rw [hk.cell hg (hF g rfl hg)]; exact hc j u hu⟩

theorem Row.seen {w : World} {e size n : Nat} {v : Value} {xs : List Value} (h : Row w e size v n xs) : Seen w size v n xs := by
  refine ⟨h.1, ?_⟩
  rcases h.2 with ⟨rfl, rfl⟩ | ⟨g, off, cap, cur, lo, hi, rfl, hg, h1, h2, _⟩
  · exact ⟨none, 0, rfl, Nat.le_refl _, by simp [maxLen], .inl rfl⟩
  · refine ⟨_, cap, rfl, h1, h2, .inr ⟨g, off, rfl, lt_of_block hg, fun j u hu => ?_⟩⟩
    have hj : j < n * size := by rw [← h.1]; exact (List.getElem?_eq_some_iff.1 hu).1
    rw [h.cellAt j hj, hu]

theorem splice_window2 {α : Type} (L : List α) (off j n : Nat) (cs : List α) (h : j + cs.length ≤ n) (hL : off + n ≤ L.length) :
    ((splice L (off + j) cs).drop off).take n = splice ((L.drop off).take n) j cs := by
  unfold splice
  apply List.ext_getElem?
  intro i
  simp only [List.getElem?_append, List.getElem?_take, List.length_take, List.getElem?_drop, List.length_drop]
  have e1 : min (off + j) L.length = off + j := by omega
  have e2 : min n (L.length - off) = n := by omega
  have e3 : min j n = j := by omega
  rw [e1, e2, e3]
  by_cases h0 : i < n
  · by_cases h1 : i < j
    · simp [h0, h1, show off + i < off + j by omega]
    · by_cases h2 : i - j < cs.length
      · simp only [h0, h1, if_true, if_false, show ¬ off + i < off + j by omega, show off + i - (off + j) = i - j by omega, h2]
      · simp only [h0, h1, if_true, if_false, show ¬ off + i < off + j by omega, show off + i - (off + j) = i - j by omega, h2, show j + cs.length + (i - j - cs.length) < n by omega]
        congr 1; omega
  · simp only [h0, if_false, show ¬ i < j by omega, show ¬ i - j < cs.length by omega, show ¬ j + cs.length + (i - j - cs.length) < n by omega]

/-- Cells laid into a row, one behind the other. -/
theorem Row.setCells {w : World} {e size n g off cap : Nat} {xs : List Value} (h : Row w e size (.slice (some ⟨g, off, none⟩) n cap) n xs) (j : Nat) (cs : List Value) (hj : j + cs.length ≤ n * size) :
    Row (w.setCells g (off + j) cs) e size (.slice (some ⟨g, off, none⟩) n cap) n (splice xs j cs) := by
  rcases h.2 with ⟨h', _⟩ | ⟨g', off', cap', cur, lo, hi, h', hg, hnc, hcm, hs, hf, htake⟩
  · simp at h'
  · simp only [Value.slice.injEq, Option.some.injEq, Addr.mk.injEq, and_true, true_and] at h'
    obtain ⟨⟨rfl, rfl⟩, rfl⟩ := h'
    have hmul : n * size ≤ cap * size := Nat.mul_le_mul_right _ hnc
    obtain ⟨cur', h1, h2⟩ := splice_heap g cs (off + j) w cur e (lo, hi) hg (by omega)
    have hsz : cur'.size = cur.size := by
      rw [← Array.length_toList, h2, length_splice _ _ _ (by simp only [Array.length_toList]; omega), Array.length_toList]
    refine ⟨by rw [length_splice _ _ _ (by rw [h.1]; exact hj)]; exact h.1, .inr ⟨g, off, cap, cur', lo, hi, rfl, h1, hnc, hcm, by omega, hf, ?_⟩⟩
    rw [h2, splice_window2 _ _ _ _ _ hj (by simp only [Array.length_toList]; omega), htake]

/-- copy, as one step of a region that draws its order. -/
theorem step_copy_cells {P : Program} {ops : Array Oper} {o : Oper} {a : Act} {w : World} {K : Act → World → Prop} {Q : Exit → Act → World → Prop} {E : Prop} (hgd : o.guard = none) (d s : Operand) {dT sT : TypeId}
    (ho : o.op = .call { callee := .builtin .copy, args := #[d, s], argTypes := #[dT, sT] }) {elem : TypeId} (hu : P.underlying dT = some (.slice elem)) (hsz : (P.info? elem).map (·.size) = some 1)
    {b off dLen dCap : Nat} {ad : Addr} {sLen sCap : Nat} (hd : a.eval d = .slice (some ⟨b, off, none⟩) dLen dCap) (hs : a.eval s = .slice (some ad) sLen sCap) (cs : List Value) (hn : cs.length = Nat.min sLen dLen)
    (hsrc : ∀ j v, cs[j]? = some v → w.cell? (ad.add j) = some v) (hc : ∀ j, j < cs.length → (w.cell? ⟨b, off + j, none⟩).isSome = true ∧ w.frozen? ⟨b, off + j, none⟩ = false) (h1 : ∀ v ∈ cs, v.oneCell' = true)
    (h : K (a.put o.dst (goInt cs.length)) (w.setCells b off cs)) :
    if Region.wanted o (yielded ops a.tmps) = true then Oper.wp P o a w K Q else E := by
  have hw : Region.wanted o (yielded ops a.tmps) = true := by simp [Region.wanted, hgd]
  rw [if_pos hw]
  have hrun := run_copy_cells (P := P) w dT sT o.type elem b off dLen dCap ad sLen sCap cs hu hsz hn hsrc (fun j hj => (hc j hj).1) (fun j hj => (hc j hj).2) h1
  unfold Oper.wp
  simp [execOp, ho, resolve, invoke, builtin, hd, hs, hrun, Result.andThen]
  exact h

/-- copy, elsewhere. -/
theorem wpList_copy_cells {P : Program} {ops : Array Oper} {rest : List Oper} {o : Oper} {a : Act} {w : World} {Q : Exit → Act → World → Prop} (hgd : o.guard = none) (d s : Operand) {dT sT : TypeId}
    (ho : o.op = .call { callee := .builtin .copy, args := #[d, s], argTypes := #[dT, sT] }) {elem : TypeId} (hu : P.underlying dT = some (.slice elem)) (hsz : (P.info? elem).map (·.size) = some 1)
    {b off dLen dCap : Nat} {ad : Addr} {sLen sCap : Nat} (hd : a.eval d = .slice (some ⟨b, off, none⟩) dLen dCap) (hs : a.eval s = .slice (some ad) sLen sCap) (cs : List Value) (hn : cs.length = Nat.min sLen dLen)
    (hsrc : ∀ j v, cs[j]? = some v → w.cell? (ad.add j) = some v) (hc : ∀ j, j < cs.length → (w.cell? ⟨b, off + j, none⟩).isSome = true ∧ w.frozen? ⟨b, off + j, none⟩ = false) (h1 : ∀ v ∈ cs, v.oneCell' = true)
    (h : wpList P ops Q rest (a.put o.dst (goInt cs.length)) (w.setCells b off cs)) : wpList P ops Q (o :: rest) a w := by
  refine wpList_plain hgd fun K hK => ?_
  have hrun := run_copy_cells (P := P) w dT sT o.type elem b off dLen dCap ad sLen sCap cs hu hsz hn hsrc (fun j hj => (hc j hj).1) (fun j hj => (hc j hj).2) h1
  unfold Oper.wp
  simp [execOp, ho, resolve, invoke, builtin, hd, hs, hrun, Result.andThen]
  exact hK _ _ h

/-- An operation whose guard says yes. -/
theorem wpList_wanted {P : Program} {w : World} {ops : Array Oper} {rest : List Oper} {o : Oper} {a : Act} {Q : Exit → Act → World → Prop} (hw : Region.wanted o (yielded ops a.tmps) = true)
    (h : ∀ K : Act → World → Prop, (∀ a w, wpList P ops Q rest a w → K a w) → o.wp P a w K Q) : wpList P ops Q (o :: rest) a w :=
  wpList_step fun K hK => by rw [if_pos hw]; exact h K hK

/-- make, of n elements: a row of zeros. -/
theorem wpList_make_row_g {P : Program} {w : World} {ops : Array Oper} {rest : List Oper} {o : Oper} {a : Act} {Q : Exit → Act → World → Prop}
    (hw : Region.wanted o (yielded ops a.tmps) = true) (l c : Operand) {t : TypeId} (hop : o.op = Op.makeSlice t l c)
    {e : TypeId} {i : TypeInfo} {z : Value} {size bytes : Nat} (h1 : P.underlying t = some (.slice e)) (h2 : P.info? e = some i) (h3 : i.zero = some z) (h4 : i.size = size) (h5 : i.bytes = bytes)
    {kl kc : IntKind} {L C : Int} (n : Nat) (hl : a.eval l = .int kl L) (hc : a.eval c = .int kc C) (hL : L = (n : Int)) (hC : C = (n : Int)) (b2 : bytes * n ≤ 281474976710656) (b3 : n ≤ maxLen)
    (hK : ∀ w', Row w' e size (.slice (some ⟨w.heap.size, 0, none⟩) n n) n (madeCells z.cells (n * size)).toList → Keep (fun _ => False) w w' → w.heap.size < w'.heap.size → wpList P ops Q rest (a.put o.dst (.slice (some ⟨w.heap.size, 0, none⟩) n n)) w') :
    wpList P ops Q (o :: rest) a w := by
  subst h5
  refine wpList_wanted hw fun K hK' => ?_
  obtain ⟨w', hrun, r1, r2⟩ := run_make_full (P := P) w w.heap.size t e i z size h1 h2 h3 h4 kl kc n b2 b3 (Nat.le_refl _)
  subst hL
  subst hC
  unfold Oper.wp
  simp [execOp, hop, hl, hc, hrun, Result.andThen]
  exact hK' _ _ (hK w' (Row.of_owns r1) ((Keep.refl _ w).grown r2 (fun _ h => by cases h)) ((Row.of_owns r1).lt (k := w.heap.size) rfl))

/-- make, of n elements: a row of zeros. -/
theorem wpList_make_row {P : Program} {w : World} {ops : Array Oper} {rest : List Oper} {o : Oper} {a : Act} {Q : Exit → Act → World → Prop}
    (hg : o.guard = none) (l c : Operand) {t : TypeId} (hop : o.op = Op.makeSlice t l c)
    {e : TypeId} {i : TypeInfo} {z : Value} {size bytes : Nat} (h1 : P.underlying t = some (.slice e)) (h2 : P.info? e = some i) (h3 : i.zero = some z) (h4 : i.size = size) (h5 : i.bytes = bytes)
    {kl kc : IntKind} {L C : Int} (n : Nat) (hl : a.eval l = .int kl L) (hc : a.eval c = .int kc C) (hL : L = (n : Int)) (hC : C = (n : Int)) (b2 : bytes * n ≤ 281474976710656) (b3 : n ≤ maxLen)
    (hK : ∀ w', Row w' e size (.slice (some ⟨w.heap.size, 0, none⟩) n n) n (madeCells z.cells (n * size)).toList → Keep (fun _ => False) w w' → w.heap.size < w'.heap.size → wpList P ops Q rest (a.put o.dst (.slice (some ⟨w.heap.size, 0, none⟩) n n)) w') :
    wpList P ops Q (o :: rest) a w := by
  subst h5
  refine wpList_make_full w hg l c t hop w.heap.size e i z size h1 h2 h3 h4 kl kc L C n hl hc hL hC b2 b3 (Nat.le_refl _) (fun w' hr hk => hK w' (Row.of_owns hr) ((Keep.refl _ w).grown hk (fun _ h => by cases h)) ?_)
  exact (Row.of_owns hr).lt (k := w.heap.size) rfl

theorem Tryz.infoB : (Tryz.prog.info? 5).map (fun i => (i.zero, i.size, i.bytes)) = some (some (.int .u8 0), 1, 1) := by kernel_rfl

end Go.Proofs.YtheaghgockafmaaGreat
