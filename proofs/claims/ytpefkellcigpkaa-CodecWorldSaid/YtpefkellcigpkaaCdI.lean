/- codec: lists in blocks of their own, that may be written. -/
import Derived.Test.YtpefkellcigpkaaCdO
import Derived.Test.YtpefkellcigpkaaCdCut
import Derived.Deep.Slices
namespace Go.Proofs.Ytpefkellcigpkaa.Cd
open Go.RowKit Go.Proofs.Ytpefkellcigpkaa
set_option maxRecDepth 100000

/-- A list whose blocks lie from lo on and below hi, and may be written. -/
structure Mine {M : Type} (E : El M) (ty : TypeId) (lo hi : Nat) (w : World) (v : Value) (l : List M) : Prop where
  ex : ∃ css : List (List Value), Row w ty E.size v l.length css.flatten ∧ css.length = l.length ∧ (∀ cs ∈ css, cs.length = E.size) ∧ ∀ (i : Nat) (x : M), l[i]? = some x → ∃ cs, css[i]? = some cs ∧ E.H (fun b => (lo ≤ b ∧ b < hi) ∧ ¬ own v b) w x cs
  new : ∀ b, own v b → lo ≤ b ∧ b < hi

theorem Own.mine {M : Type} {E : El M} {ty : TypeId} {lo hi : Nat} {w : World} {v : Value} {l : List M} (h : Own E ty lo w v l) (hh : w.heap.size ≤ hi) : Mine E ty lo hi w v l := by
  obtain ⟨css, h1, h2, h3, h4⟩ := h.ex
  refine ⟨⟨css, h1, h2, h3, fun i x hx => ?_⟩, fun b e => ⟨h.new b e, by have := h.lt e; omega⟩⟩
  obtain ⟨cs, c1, c2⟩ := h4 i x hx
  exact ⟨cs, c1, E.mono (fun b hb hp => ⟨⟨hp.1, by omega⟩, hp.2⟩) c2⟩

section
variable {M : Type} {E : El M} {ty : TypeId} {lo hi : Nat} {w w' : World} {v : Value} {l : List M}

theorem Mine.keep {F : Nat → Prop} (h : Mine E ty lo hi w v l) (k : Keep F w w') (hF : ∀ b, lo ≤ b → b < hi → ¬ F b) : Mine E ty lo hi w' v l := by
  obtain ⟨css, h1, h2, h3, h4⟩ := h.ex
  refine ⟨⟨css, h1.keep k (fun b e => hF b (h.new b e).1 (h.new b e).2), h2, h3, fun i x hx => ?_⟩, h.new⟩
  obtain ⟨cs, c1, c2⟩ := h4 i x hx
  exact ⟨cs, c1, E.keep k (fun b hb _ => hF b hb.1.1 hb.1.2) c2⟩

theorem Mine.cells {g off n cap : Nat} (h : Mine E ty lo hi w (.slice (some ⟨g, off, none⟩) n cap) l) (i : Nat) (x : M) (hx : l[i]? = some x) :
    ∃ cs, E.H (fun b => (lo ≤ b ∧ b < hi) ∧ b ≠ g) w x cs ∧ cs.length = E.size ∧ (∀ j u, cs[j]? = some u → w.cell? ⟨g, off + i * E.size + j, none⟩ = some u) ∧ (∀ j, j < E.size → w.frozen? ⟨g, off + i * E.size + j, none⟩ = false) ∧ lo ≤ g ∧ g < hi := by
  obtain ⟨css, h1, h2, h3, h4⟩ := h.ex
  obtain ⟨cs, c1, c2⟩ := h4 i x hx
  have hn : n = l.length := by
    obtain ⟨_, _, hv, _⟩ := h1.slice
    simp only [Value.slice.injEq] at hv
    exact hv.2.1
  have hcl := h3 cs (List.mem_of_getElem? c1)
  have hi' : i < l.length := (List.getElem?_eq_some_iff.1 hx).1
  have hcap : n ≤ cap := by
    obtain ⟨_, _, hv, c, _⟩ := h1.slice
    simp only [Value.slice.injEq] at hv
    obtain ⟨_, _, rfl⟩ := hv
    omega
  have hm := Nat.mul_le_mul_right E.size (show i + 1 ≤ l.length by omega)
  rw [Nat.add_mul] at hm
  have hm2 := Nat.mul_le_mul_right E.size hcap
  have hg := h.new g rfl
  subst hn
  refine ⟨cs, E.mono (fun b _ hb => ⟨hb.1, fun e => hb.2 (by rw [e]; rfl)⟩) c2, hcl, fun j u hu => ?_, fun j hj => ?_, hg.1, hg.2⟩
  · have hj : j < E.size := by rw [← hcl]; exact (List.getElem?_eq_some_iff.1 hu).1
    rw [Nat.add_assoc, h1.cellAt (i * E.size + j) (by omega), flatten_get css h3 i j cs c1 hj, hu]
  · rw [Nat.add_assoc]
    exact (h1.there (i * E.size + j) (by omega)).2

theorem Mine.get {a : Option Addr} {n cap : Nat} (h : Mine E ty lo hi w (.slice a n cap) l) (i : Nat) (hi' : i < l.length) : ∃ g off, a = some ⟨g, off, none⟩ := by
  obtain ⟨css, h1, h2, h3, h4⟩ := h.ex
  obtain ⟨g, off, c, hv, _⟩ := h1.full (by omega)
  simp only [Value.slice.injEq] at hv
  exact ⟨g, off, hv.1⟩

theorem Mine.at (h : Mine E ty lo hi w v l) : LAt E (fun b => lo ≤ b ∧ b < hi) w v l := by
  obtain ⟨css, h1, h2, h3, h4⟩ := h.ex
  have hr := h1
  obtain ⟨hlen, hk⟩ := h1
  rcases hk with ⟨rfl, hn⟩ | ⟨g, off, cap, cur, lo', hi', rfl, hg, c1, c2, _⟩
  · have : l = [] := List.eq_nil_of_length_eq_zero hn
    subst this
    exact LAt.nil
  · refine ⟨_, cap, rfl, c1, c2, .inr ⟨g, off, rfl, lt_of_block hg, h.new g rfl, fun i x hx => ?_⟩⟩
    obtain ⟨cs, d1, _, d3, _⟩ := h.cells i x hx
    exact ⟨cs, E.mono (fun b _ hb => hb.1) d1, d3⟩

theorem Mine.slice (h : Mine E ty lo hi w v l) : ∃ a cap, v = .slice a l.length cap ∧ l.length ≤ cap ∧ cap ≤ maxLen := by
  obtain ⟨css, h1, _⟩ := h.ex
  exact h1.slice

theorem flatten_take {α : Type} {s : Nat} : ∀ (css : List (List α)), (∀ cs ∈ css, cs.length = s) → ∀ k, (css.take k).flatten = css.flatten.take (k * s)
  | [], _, k => by simp
  | c :: css, h, 0 => by simp
  | c :: css, h, k + 1 => by
    have hc := h c (by simp)
    rw [List.take_succ_cons, List.flatten_cons, List.flatten_cons, flatten_take css (fun d hd => h d (by simp [hd])) k, List.take_append, hc, Nat.add_mul, Nat.one_mul]
    rw [show k * s + s - s = k * s by omega, List.take_of_length_le (l := c) (by omega)]

theorem own_len {a : Option Addr} {n k c c' b : Nat} (h : own (.slice a k c) b) : own (.slice a n c') b := by
  cases a with
  | none => simp [own, Value.ownBlock] at h
  | some a => exact h

theorem Row.head {e : TypeId} {size n k cap : Nat} {a : Option Addr} {xs : List Value} (h : Row w e size (.slice a n cap) n xs) (hk : k ≤ n) (hk0 : 0 < n) : Row w e size (.slice a k cap) k (xs.take (k * size)) := by
  have hm := Nat.mul_le_mul_right size hk
  rcases h.2 with ⟨h1, h2⟩ | ⟨g, off, cap', cur, lo, hi, h1, h2, h3, h4, h5, h6, h7⟩
  · omega
  · simp only [Value.slice.injEq] at h1
    obtain ⟨rfl, _, rfl⟩ := h1
    refine ⟨by rw [List.length_take, h.1]; omega, .inr ⟨g, off, cap, cur, lo, hi, rfl, h2, by omega, h4, h5, h6, ?_⟩⟩
    rw [← h7, List.take_take, Nat.min_eq_left hm]

/-- The first part. -/
theorem Mine.head {a : Option Addr} {n cap : Nat} (h : Mine E ty lo hi w (.slice a n cap) l) (k : Nat) (hk : k < l.length) : Mine E ty lo hi w (.slice a k cap) (l.take k) := by
  obtain ⟨css, h1, h2, h3, h4⟩ := h.ex
  have hn : n = l.length := by
    obtain ⟨_, _, hv, _⟩ := h1.slice
    simp only [Value.slice.injEq] at hv
    exact hv.2.1
  subst hn
  have hl : (l.take k).length = k := by rw [List.length_take]; omega
  refine ⟨⟨css.take k, ?_, by simp only [List.length_take]; omega, fun cs hc => h3 cs (List.mem_of_mem_take hc), fun i x hx => ?_⟩, fun b e => h.new b (own_len e)⟩
  · rw [hl, flatten_take css h3 k]
    exact Row.head h1 (by omega) (by omega)
  · rw [List.getElem?_take] at hx
    split at hx
    · rename_i hik
      obtain ⟨cs, c1, c2⟩ := h4 i x hx
      exact ⟨cs, by rw [List.getElem?_take, if_pos hik]; exact c1, E.mono (fun b _ hb => ⟨hb.1, fun e => hb.2 (own_len e)⟩) c2⟩
    · cases hx

theorem flatten_set {α : Type} {s : Nat} : ∀ (css : List (List α)), (∀ cs ∈ css, cs.length = s) → ∀ (i j : Nat) (cs : List α) (u : α), css[i]? = some cs → j < s → css.flatten.set (i * s + j) u = (css.set i (cs.set j u)).flatten
  | [], _, i, j, cs, u, h, _ => by simp at h
  | c :: css, hl, 0, j, cs, u, h, hj => by
    simp only [List.getElem?_cons_zero, Option.some.injEq] at h
    subst h
    have hc := hl c (by simp)
    rw [List.flatten_cons, List.set_cons_zero, List.flatten_cons, Nat.zero_mul, Nat.zero_add, List.set_append_left _ _ (by omega)]
  | c :: css, hl, i + 1, j, cs, u, h, hj => by
    rw [List.getElem?_cons_succ] at h
    have hc := hl c (by simp)
    rw [List.flatten_cons, List.set_cons_succ, List.flatten_cons, List.set_append_right _ _ (by rw [Nat.add_mul]; omega), hc, Nat.add_mul, Nat.one_mul]
    rw [show i * s + s + j - s = i * s + j by omega, flatten_set css (fun d hd => hl d (by simp [hd])) i j cs u h hj]

/-- One cell of a thing is written anew. -/
theorem Mine.set1 {g off n cap : Nat} (h : Mine E ty lo hi w (.slice (some ⟨g, off, none⟩) n cap) l) (i : Nat) (x y : M) (hx : l[i]? = some x) (j : Nat) (hj : j < E.size) (u : Value)
    (hH : ∀ (Pb : Nat → Prop) (cs : List Value), E.H Pb w x cs → (∀ j u, cs[j]? = some u → w.cell? ⟨g, off + i * E.size + j, none⟩ = some u) → E.H Pb w y (cs.set j u)) :
    Mine E ty lo hi (w.setCell ⟨g, off + i * E.size + j, none⟩ u) (.slice (some ⟨g, off, none⟩) n cap) (l.set i y) := by
  obtain ⟨cs0, _, _, hcell, _, _, _⟩ := h.cells i x hx
  obtain ⟨css, h1, h2, h3, h4⟩ := h.ex
  have hn : n = l.length := by
    obtain ⟨_, _, hv, _⟩ := h1.slice
    simp only [Value.slice.injEq] at hv
    exact hv.2.1
  subst hn
  obtain ⟨cs, c1, c2⟩ := h4 i x hx
  have hil : i < l.length := (List.getElem?_eq_some_iff.1 hx).1
  have hm := Nat.mul_le_mul_right E.size (show i + 1 ≤ l.length by omega)
  rw [Nat.add_mul] at hm
  have k : Keep (fun b => b = g) w (w.setCell ⟨g, off + i * E.size + j, none⟩ u) := (Keep.refl _ w).setCell _ _ (.inl rfl)
  have hcl := h3 cs (List.mem_of_getElem? c1)
  refine ⟨⟨css.set i (cs.set j u), ?_, by simp [h2], ?_, ?_⟩, h.new⟩
  · rw [List.length_set, ← flatten_set css h3 i j cs u c1 hj, Nat.add_assoc]
    exact h1.stored (i * E.size + j) u
  · intro c hc
    rcases List.mem_or_eq_of_mem_set hc with hc | rfl
    · exact h3 c hc
    · rw [List.length_set]; exact hcl
  · intro q z hz
    rw [List.getElem?_set] at hz
    by_cases hq : i = q
    · subst hq
      rw [if_pos rfl, if_pos hil] at hz
      simp only [Option.some.injEq] at hz
      subst hz
      refine ⟨cs.set j u, by rw [List.getElem?_set, if_pos rfl, if_pos (by omega)], ?_⟩
      refine E.keep k (fun b hb _ e => hb.2 (by rw [e]; rfl)) (hH _ cs c2 (fun j' u' hu' => ?_))
      have hj' : j' < E.size := by rw [← hcl]; exact (List.getElem?_eq_some_iff.1 hu').1
      rw [Nat.add_assoc, h1.cellAt (i * E.size + j') (by omega), flatten_get css h3 i j' cs c1 hj', hu']
    · rw [if_neg hq] at hz
      obtain ⟨c, d1, d2⟩ := h4 q z hz
      exact ⟨c, by rw [List.getElem?_set, if_neg hq]; exact d1, E.keep k (fun b hb _ e => hb.2 (by rw [e]; rfl)) d2⟩
end

/-- Whatever cell is written: a row's cells are the same, or what was written. -/
theorem Row.poke {w : World} {e : TypeId} {size n : Nat} {v : Value} {xs : List Value} (h : Row w e size v n xs) (b o : Nat) (u : Value) :
    ∃ xs' : List Value, Row (w.setCell ⟨b, o, none⟩ u) e size v n xs' ∧ xs'.length = xs.length ∧ ∀ (k : Nat) (c : Value), xs'[k]? = some c → c = u ∨ xs[k]? = some c := by
  by_cases hb : v.ownBlock = some b
  · rcases h.2 with ⟨rfl, _⟩ | ⟨g, off, cap, cur, lo, hi, rfl, h2, h3, h4, h5, h6, h7⟩
    · simp [Value.ownBlock] at hb
    · simp only [Value.ownBlock, Option.some.injEq] at hb
      subst hb
      by_cases ho : off ≤ o
      · obtain ⟨d, rfl⟩ : ∃ d, o = off + d := ⟨o - off, by omega⟩
        refine ⟨_, h.stored d u, by simp, fun k c hc => ?_⟩
        rw [List.getElem?_set] at hc
        split at hc
        · split at hc
          · left; simpa using hc.symm
          · cases hc
        · exact .inr hc
      · refine ⟨xs, ⟨h.1, .inr ⟨g, off, cap, _, lo, hi, rfl, heap_setCell_at u h2, h3, h4, by simpa using h5, h6, ?_⟩⟩, rfl, fun k c hc => .inr hc⟩
        rw [Array.toList_setIfInBounds, List.drop_set, if_pos (by omega), h7]
  · exact ⟨xs, h.setCell _ u hb, rfl, fun k c hc => .inr hc⟩

end Go.Proofs.Ytpefkellcigpkaa.Cd
/- codec: a list that is read, as a source; its copy. -/
namespace Go.Proofs.Ytpefkellcigpkaa.Cd
open Go.RowKit Go.Deep Go.Proofs.Ytpefkellcigpkaa
set_option maxRecDepth 100000

theorem flatten_len {α : Type} {s : Nat} : ∀ (css : List (List α)), (∀ cs ∈ css, cs.length = s) → css.flatten.length = css.length * s
  | [], _ => by simp
  | c :: css, h => by
    rw [List.flatten_cons, List.length_append, flatten_len css (fun d hd => h d (by simp [hd])), h c (by simp), List.length_cons, Nat.add_mul]; omega

theorem Seen.src1 {P : Program} {w : World} {size n : Nat} {v : Value} {xs : List Value} {tx e : TypeId} (h : Seen w size v n xs) (ht : P.underlying tx = some (.slice e)) (h1 : ∀ u ∈ xs, u.oneCell' = true) : Src P size tx v n xs w := by
  obtain ⟨hl, a, cap, rfl, hc, hm, hcell⟩ := h
  rcases hcell with rfl | ⟨g, off, rfl, _, hcl⟩
  · have : xs = [] := List.eq_nil_of_length_eq_zero (by simpa using hl)
    subst this
    cases a with
    | none => exact Src.ofNil w ht cap
    | some a => exact Src.ofSlice w ht a 0 cap [] (by simp) (fun j u hu => by simp at hu) (by simp)
  · exact Src.ofSlice w ht _ n cap xs hl (fun j u hu => by rw [add_off]; exact hcl j u hu) h1

/-- A list's cells. -/
structure Css {M : Type} (E : El M) (Pb : Nat → Prop) (w : World) (v : Value) (l : List M) (css : List (List Value)) : Prop where
  len : css.length = l.length
  each : ∀ cs ∈ css, cs.length = E.size
  holds : ∀ (i : Nat) (x : M), l[i]? = some x → ∃ cs, css[i]? = some cs ∧ E.H Pb w x cs
  seen : Seen w E.size v l.length css.flatten
  one : ∀ u ∈ css.flatten, u.oneCell' = true

theorem LAt.css {M : Type} {E : El M} {Pb : Nat → Prop} {w : World} {v : Value} {l : List M} (h : LAt E Pb w v l) (hs : 0 < E.size) : ∃ css, Css E Pb w v l css := by
  obtain ⟨a, cap, rfl, h1, h2, h3⟩ := h
  rcases h3 with rfl | ⟨g, off, rfl, hg, hb, hc⟩
  · exact ⟨[], rfl, by simp, by simp, ⟨by simp, a, cap, rfl, h1, h2, .inl rfl⟩, by simp⟩
  · have each : ∀ i, i < l.length → ∃ cs : List Value, ∃ x, l[i]? = some x ∧ E.H Pb w x cs ∧ w.rangeAt g (off + i * E.size) cs := fun i hi => by
      obtain ⟨cs, d1, d2⟩ := hc i _ (List.getElem?_eq_getElem hi)
      exact ⟨cs, _, List.getElem?_eq_getElem hi, d1, d2⟩
    obtain ⟨f, hf⟩ := choose_lt each
    have hlen : ∀ cs ∈ (List.range l.length).map f, cs.length = E.size := by
      intro cs hcs
      obtain ⟨i, hi, rfl⟩ := List.mem_map.1 hcs
      obtain ⟨x, _, d, _⟩ := hf i (by simpa using hi)
      exact E.len d
    refine ⟨(List.range l.length).map f, by simp, hlen, fun i x hx => ?_, ⟨by rw [flatten_len _ hlen]; simp, some ⟨g, off, none⟩, cap, rfl, h1, h2, .inr ⟨g, off, rfl, hg, fun j u hu => ?_⟩⟩, fun u hu => ?_⟩
    · have hi : i < l.length := (List.getElem?_eq_some_iff.1 hx).1
      obtain ⟨y, hy, d, _⟩ := hf i hi
      rw [hx] at hy
      obtain rfl := Option.some.inj hy
      exact ⟨f i, by rw [List.getElem?_map, List.getElem?_range hi]; rfl, d⟩
    · have hj : j < l.length * E.size := by
        have := (List.getElem?_eq_some_iff.1 hu).1
        rw [flatten_len _ hlen] at this; simpa using this
      have hi : j / E.size < l.length := Nat.div_lt_of_lt_mul (by rw [Nat.mul_comm]; exact hj)
      have hr := Nat.mod_lt j hs
      have e : j / E.size * E.size + j % E.size = j := by have := Nat.div_add_mod j E.size; rw [Nat.mul_comm] at this; exact this
      obtain ⟨x, _, d1, d2⟩ := hf (j / E.size) hi
      have hg2 := flatten_get _ hlen (j / E.size) (j % E.size) (f (j / E.size)) (by rw [List.getElem?_map, List.getElem?_range hi]; rfl) hr
      rw [e, hu] at hg2
      have := d2 (j % E.size) u hg2.symm
      rw [Nat.add_assoc, e] at this
      exact this
    · obtain ⟨cs, hcs, hu2⟩ := List.mem_flatten.1 hu
      obtain ⟨i, hi, rfl⟩ := List.mem_map.1 hcs
      obtain ⟨x, _, d, _⟩ := hf i (by simpa using hi)
      exact E.one d u hu2

/-- A kind whose things hold no addresses. -/
def Flat {M : Type} (E : El M) : Prop := ∀ {Pb Qb : Nat → Prop} {w w' : World} {x : M} {cs : List Value}, E.H Pb w x cs → E.H Qb w' x cs
theorem flatI : Flat eI := fun h => h
theorem flatS : Flat eS := fun h => h
theorem flatThing : Flat eThing := fun h => h
theorem flatMob : Flat eMob := fun h => h
theorem flatTill : Flat eTill := fun h => h
theorem flatLot : Flat eLot := fun h => h

/-- The copy that append to nothing makes. -/
theorem Own.copied {M : Type} {E : El M} (hE : Flat E) {ty : TypeId} {Pb : Nat → Prop} {w w5 : World} {v v' : Value} {l : List M} {css : List (List Value)} (h : Css E Pb w v l css) {n : Nat} (hn : n = l.length) (r : Row w5 ty E.size v' (0 + n) ([] ++ css.flatten))
    {B : Nat} (hB : ∀ b, v'.ownBlock = some b → B ≤ b) : Own E ty B w5 v' l := by
  subst hn
  rw [Nat.zero_add, List.nil_append] at r
  refine ⟨⟨css, r, h.len, h.each, fun i x hx => ?_⟩, hB⟩
  obtain ⟨cs, c1, c2⟩ := h.holds i x hx
  exact ⟨cs, c1, hE c2⟩

theorem infoBytes {t : TypeId} {s b zs : Nat} (h : (Try.prog.info? t).bind (fun i => i.zero.map fun z => (i.size, i.bytes, z.cells.size)) = some (s, b, zs)) : ∃ (i : TypeInfo) (z : Value), Try.prog.info? t = some i ∧ i.zero = some z ∧ i.size = s ∧ i.bytes = b ∧ z.cells.size = zs := by
  obtain ⟨i, h1, h2⟩ := Option.bind_eq_some_iff.1 h
  obtain ⟨z, h3, h4⟩ := Option.map_eq_some_iff.1 h2
  simp only [Prod.mk.injEq] at h4
  exact ⟨i, z, h1, h3, h4.1, h4.2.1, h4.2.2⟩

/-- append(nil, l...) of things without addresses. -/
theorem wpList_copied {M : Type} {E : El M} (hE : Flat E) (hs : 0 < E.size) {ops : Array Oper} {rest : List Oper} {o : Oper} {a : Act} {w : World} {Q : Exit → Act → World → Prop} {t ty : TypeId} {by_ : Nat} (hi : (Try.prog.info? ty).bind (fun i => i.zero.map fun z => (i.size, i.bytes, z.cells.size)) = some (E.size, by_, E.size))
    (ht : Try.prog.underlying t = some (.slice ty)) (hgd : o.guard = none) (s x : Operand) (ho : o.op = .call { callee := .builtin .append, args := #[s, x], argTypes := #[t, t] }) (hv : a.eval s = .slice none 0 0)
    {vx : Value} (hx : a.eval x = vx) {Pb : Nat → Prop} {l : List M} (hL : LAt E Pb w vx l) (hl : l.length * by_ ≤ reachBytes) (h1 : 1 ≤ by_)
    (hK : ∀ v' w', Own E ty w.heap.size w' v' l → Keep (fun _ => False) w w' → wpList Try.prog ops Q rest (a.put o.dst v') w') : wpList Try.prog ops Q (o :: rest) a w := by
  obtain ⟨ie, z, q1, q2, q3, q4, q5⟩ := infoBytes hi
  obtain ⟨css, hc⟩ := hL.css hs
  have hr : reachBytes = 140737488351232 - 0 ∨ reachBytes ≤ 140737488355328 := .inr (by decide)
  have hr2 : reachBytes ≤ 140737488355328 := by decide
  have hlen : l.length ≤ l.length * by_ := Nat.le_mul_of_pos_right _ h1
  refine wpList_append_row w hgd s x ho ht q1 q2 q3 q4 q5 hv (Row.nil w ty E.size) hx (Seen.src1 hc.seen ht hc.one) (by unfold maxLen; omega) (by rw [Nat.zero_add]; omega) ?_
  intro v' w' r k nw _
  refine hK v' w' (Own.copied hE hc rfl r (fun b hb => ?_)) (k.mono (fun b _ hb => by simp [Value.ownBlock] at hb))
  rcases nw b hb with h9 | h9
  · simp [Value.ownBlock] at h9
  · exact h9.1

end Go.Proofs.Ytpefkellcigpkaa.Cd
