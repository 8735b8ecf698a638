/- codec: a list that is built, thing by thing. -/
import Derived.Test.YtpefkellcigpkaaCdR2
import Derived.Test.YtpefkellcigpkaaCdC
import Derived.Great.BuildSlice
namespace Go.Proofs.Ytpefkellcigpkaa.Cd
open Go.RowKit Go.Proofs.Ytpefkellcigpkaa
set_option maxRecDepth 100000

theorem flatten_get {α : Type} {s : Nat} : ∀ (css : List (List α)), (∀ cs ∈ css, cs.length = s) → ∀ (i j : Nat) (cs : List α), css[i]? = some cs → j < s → css.flatten[i * s + j]? = cs[j]?
  | [], _, i, j, cs, h, _ => by simp at h
  | c :: css, hl, 0, j, cs, h, hj => by
    simp only [List.getElem?_cons_zero, Option.some.injEq] at h
    subst h
    rw [List.flatten_cons, Nat.zero_mul, Nat.zero_add, List.getElem?_append_left (by rw [hl c (by simp)]; exact hj)]
  | c :: css, hl, i + 1, j, cs, h, hj => by
    rw [List.getElem?_cons_succ] at h
    have hc := hl c (by simp)
    rw [List.flatten_cons, List.getElem?_append_right (by rw [hc, Nat.add_mul]; omega), hc]
    have := flatten_get css (fun d hd => hl d (by simp [hd])) i j cs h hj
    rw [← this]
    congr 1
    rw [Nat.add_mul]; omega

/-- A list that was built since there were B0 blocks. -/
structure Own {M : Type} (E : El M) (ty : TypeId) (B0 : Nat) (w : World) (v : Value) (l : List M) : Prop where
  ex : ∃ css : List (List Value), Row w ty E.size v l.length css.flatten ∧ css.length = l.length ∧ (∀ cs ∈ css, cs.length = E.size) ∧ (∀ (i : Nat) (x : M), l[i]? = some x → ∃ cs, css[i]? = some cs ∧ E.H (fun b => B0 ≤ b ∧ ¬ own v b) w x cs)
  new : ∀ b, own v b → B0 ≤ b

theorem Own.nil {M : Type} (E : El M) (ty : TypeId) (B0 : Nat) (w : World) : Own E ty B0 w (.slice none 0 0) ([] : List M) :=
  ⟨⟨[], Row.nil w ty E.size, rfl, by simp, by simp⟩, fun b e => by simp [own, Value.ownBlock] at e⟩

theorem Own.lt {M : Type} {E : El M} {ty : TypeId} {B0 : Nat} {w : World} {v : Value} {l : List M} (h : Own E ty B0 w v l) {b : Nat} (e : own v b) : b < w.heap.size := by
  obtain ⟨_, h1, _⟩ := h.ex
  exact h1.lt e

/-- Behind a call that leaves all blocks since B0 alone. -/
theorem Own.keep {M : Type} {E : El M} {ty : TypeId} {B0 : Nat} {w w' : World} {v : Value} {l : List M} {F : Nat → Prop} (h : Own E ty B0 w v l) (k : Keep F w w') (hF : ∀ b, B0 ≤ b → ¬ F b) : Own E ty B0 w' v l := by
  obtain ⟨css, h1, h2, h3, h4⟩ := h.ex
  refine ⟨⟨css, h1.keep k (fun b e => hF b (h.new b e)), h2, h3, fun i x hx => ?_⟩, h.new⟩
  obtain ⟨cs, c1, c2⟩ := h4 i x hx
  exact ⟨cs, c1, E.keep k (fun b hb _ => hF b hb.1) c2⟩

theorem Own.at {M : Type} {E : El M} {ty : TypeId} {B0 : Nat} {w : World} {v : Value} {l : List M} (h : Own E ty B0 w v l) : LAt E (fun b => B0 ≤ b) w v l := by
  obtain ⟨css, h1, h2, h3, h4⟩ := h.ex
  have hr := h1
  obtain ⟨hlen, hk⟩ := h1
  rcases hk with ⟨rfl, hn⟩ | ⟨g, off, cap, cur, lo, hi, rfl, hg, c1, c2, _⟩
  · have : l = [] := List.eq_nil_of_length_eq_zero hn
    subst this
    exact LAt.nil
  · refine ⟨_, cap, rfl, c1, c2, .inr ⟨g, off, rfl, lt_of_block hg, h.new g rfl, fun i x hx => ?_⟩⟩
    obtain ⟨cs, d1, d2⟩ := h4 i x hx
    refine ⟨cs, E.mono (fun b _ hb => hb.1) d2, fun j u hu => ?_⟩
    have hcl := h3 cs (List.mem_of_getElem? d1)
    have hj : j < E.size := by rw [← hcl]; exact (List.getElem?_eq_some_iff.1 hu).1
    have hi : i < l.length := (List.getElem?_eq_some_iff.1 hx).1
    have hb : i * E.size + j < l.length * E.size := by
      have := Nat.mul_le_mul_right E.size (show i + 1 ≤ l.length by omega)
      rw [Nat.add_mul] at this; omega
    rw [Nat.add_assoc, hr.cellAt (i * E.size + j) hb, flatten_get css h3 i j cs d1 hj, hu]

theorem Own.slice {M : Type} {E : El M} {ty : TypeId} {B0 : Nat} {w : World} {v : Value} {l : List M} (h : Own E ty B0 w v l) : ∃ a cap, v = .slice a l.length cap := by
  obtain ⟨a, cap, hv, _⟩ := h.at.slice
  exact ⟨a, cap, hv⟩

/-- One thing more, behind the list. -/
theorem Own.push {M : Type} {E : El M} {ty : TypeId} {B0 : Nat} {w0 w3 w5 : World} {v v' : Value} {l : List M} {x : M} {cs : List Value} {css : List (List Value)} {C : Obj} (h : Own E ty B0 w0 v l)
    (h1 : css.length = l.length) (h2 : ∀ cs ∈ css, cs.length = E.size) (h3 : ∀ (i : Nat) (x : M), l[i]? = some x → ∃ cs, css[i]? = some cs ∧ E.H (fun b => B0 ≤ b ∧ ¬ own v b) w0 x cs)
    {F : Nat → Prop} (k : Keep F w0 w3) (hF : ∀ b, B0 ≤ b → ¬ F b) (hB : B0 ≤ w0.heap.size) {Pb : Nat → Prop} (hx : E.H Pb w3 x cs) (hP : ∀ b, Pb b → w0.heap.size ≤ b)
    (r : Row w5 ty E.size v' (l.length + 1) (css.flatten ++ cs)) (k5 : Keep (own v) (w3.alloc C) w5) (hn : ∀ b, own v' b → own v b ∨ ((w3.alloc C).heap.size ≤ b ∧ b < w5.heap.size)) : Own E ty B0 w5 v' (l ++ [x]) := by
  have hs : (w3.alloc C).heap.size = w3.heap.size + 1 := World.size_alloc ..
  have hk := k.size
  have k4 : Keep (own v) w3 w5 := ((Keep.refl (own v) w3).alloc C).trans k5 (fun b e => .inl e)
  have hnew : ∀ b, b < w3.heap.size → own v' b → own v b := fun b hb e => by
    rcases hn b e with e1 | e1
    · exact e1
    · omega
  refine ⟨⟨css ++ [cs], by simpa using r, by simp [h1], ?_, ?_⟩, ?_⟩
  · intro c hc
    simp only [List.mem_append, List.mem_singleton] at hc
    rcases hc with hc | rfl
    · exact h2 c hc
    · exact E.len hx
  · intro i y hy
    by_cases hi : i < l.length
    · rw [List.getElem?_append_left hi] at hy
      obtain ⟨c, c1, c2⟩ := h3 i y hy
      refine ⟨c, by rw [List.getElem?_append_left (by omega)]; exact c1, ?_⟩
      have m1 : E.H (fun b => B0 ≤ b ∧ ¬ own v' b) w0 y c ∧ E.H (fun b => (B0 ≤ b ∧ ¬ own v' b) ∧ ¬ own v b) w0 y c :=
        ⟨E.mono (fun b hb hp => ⟨hp.1, fun e => hp.2 (hnew b (by omega) e)⟩) c2, E.mono (fun b hb hp => ⟨⟨hp.1, fun e => hp.2 (hnew b (by omega) e)⟩, hp.2⟩) c2⟩
      have m2 := E.keep k (fun b hb _ => hF b hb.1.1) m1.2
      have m3 := E.keep k4 (fun b hb _ => hb.2) m2
      exact E.mono (fun b _ hp => hp.1) m3
    · have hil : i = l.length := by
        have := (List.getElem?_eq_some_iff.1 hy).1
        simp only [List.length_append, List.length_singleton] at this; omega
      subst hil
      rw [List.getElem?_append_right (Nat.le_refl _), Nat.sub_self] at hy
      simp only [List.getElem?_cons_zero, Option.some.injEq] at hy
      subst hy
      refine ⟨cs, by rw [← h1, List.getElem?_append_right (Nat.le_refl _), Nat.sub_self]; rfl, ?_⟩
      have m1 : E.H (fun b => (B0 ≤ b ∧ ¬ own v' b) ∧ ¬ own v b) w3 x cs := E.mono (fun b hb hp => by
        have h9 := hP b hp
        exact ⟨⟨by omega, fun e => by have := h.lt (hnew b hb e); omega⟩, fun e => by have := h.lt e; omega⟩) hx
      exact E.mono (fun b _ hp => hp.1) (E.keep k4 (fun b hb _ => hb.2) m1)
  · intro b e
    rcases hn b e with e1 | e1
    · exact h.new b e1
    · omega

theorem RdAt.stay {B : Nat} {F : Nat → Prop} {w w' : World} {g : Nat} {S : R} (h : RdAt B w g S) (k : Keep F w w') (hF : ∀ b, F b → b ≠ g ∧ B ≤ b) : RdAt B w' g S := by
  obtain ⟨a, n, cap, h1, h2, h3, h4⟩ := h.ex
  exact ⟨a, n, cap, (k.block g (lt_of_block h1) (fun f => (hF g f).1 rfl)).trans h1, h2, h3.keep k (fun b hb _ f => by have := (hF b f).2; have := (h4 b hb).2; omega), h4⟩

/-- What a read of a kind does. -/
def ReadE {M : Type} (fn : FuncId) (E : El M) (val : List Value → Value) : Prop :=
  ∀ {B : Nat} {w : World} {g : Nat} {S : R}, RdAt B w g S → B ≤ w.heap.size → Calls Try.prog fn #[.pointer (some ⟨g, 0, none⟩)] w fun e w' => ∃ cs, e = .returned (val cs) ∧ E.H (fun b => w.heap.size ≤ b) w' (E.c.dec S).1 cs ∧ RdAt B w' g (E.c.dec S).2 ∧ KeepR g w w'

theorem fill_step {place : Nat → Option (Nat × Nat)} {cells : Array Value} {i : Nat} {v : Value} {rest : List (Nat × Value)} {off size : Nat} (hp : place i = some (off, size)) (h1 : v.cells.size = size) (h2 : off + size ≤ cells.size) :
    Instr.fill place cells ((i, v) :: rest) = Instr.fill place (v.cells.zipIdx.foldl (fun cs (x : Value × Nat) => cs.setIfInBounds (off + x.2) x.1) cells) rest := by
  rw [Instr.fill]
  simp only [hp]
  rw [if_neg (by simp; omega)]

/-- A struct as the one part of a slice. -/
theorem fill_one {place : Nat → Option (Nat × Nat)} {Z C : Array Value} {s : Nat} (hp : place 0 = some (0, s)) (hC : C.size = s) (hZ : Z.size = s) : Instr.fill place Z [(0, .agg C)] = some C := by
  have e := fill_step (place := place) (cells := Z) (i := 0) (v := .agg C) (rest := []) (off := 0) (size := s) hp hC (by omega)
  rw [e, Instr.fill]
  congr 1
  show (C.zipIdx.foldl (fun cs (x : Value × Nat) => cs.setIfInBounds (0 + x.2) x.1) Z) = C
  obtain ⟨g1, g2⟩ := Great.foldl_set 0 C.toList 0 Z
  rw [← Array.foldl_toList, Array.toList_zipIdx]
  apply Array.ext_getElem?
  intro k
  rw [g2 k]
  simp only [Nat.add_zero]
  by_cases h2 : k < C.size
  · rw [if_pos (by simp; omega)]; simp
  · rw [if_neg (by simp; omega), Array.getElem?_eq_none (by omega), Array.getElem?_eq_none (by omega)]

/-- What a list's reading answers. -/
structure RlA {M : Type} (E : El M) (B : Nat) (w : World) (g : Nat) (q : List M × R) (e : Ending) (w' : World) : Prop where
  ex : ∃ v, e = .returned v ∧ LAt E (fun b => w.heap.size ≤ b) w' v q.1 ∧ RdAt B w' g q.2 ∧ KeepR g w w'

/-- While a list is read: acc has come, m are left. -/
structure RlR {M : Type} (E : El M) (ty : TypeId) (B : Nat) (w : World) (g n : Nat) (S0 : R) (v i : Value) (wr : World) : Prop where
  ex : ∃ (acc : List M) (m : Nat) (S : R), i = .int .i64 (m : Int) ∧ (∃ a c, v = .slice a acc.length c) ∧ Own E ty w.heap.size wr v acc ∧ RdAt B wr g S ∧ KeepR g w wr ∧ acc.length + m = n ∧ loopD E.c.dec n S0 = (acc ++ (loopD E.c.dec m S).1, (loopD E.c.dec m S).2)

theorem RlR.step {M : Type} {E : El M} {ty : TypeId} {B : Nat} {w wr w3 w5 : World} {g n m : Nat} {S0 S4 : R} {v v' : Value} {acc : List M} {x : M} {cs : List Value} {css : List (List Value)} {C : Obj} {z : Int} (hO : Own E ty w.heap.size wr v acc)
    (h1 : css.length = acc.length) (h2 : ∀ cs ∈ css, cs.length = E.size) (h3 : ∀ (i : Nat) (x : M), acc[i]? = some x → ∃ cs, css[i]? = some cs ∧ E.H (fun b => w.heap.size ≤ b ∧ ¬ own v b) wr x cs)
    (k4 : KeepR g wr w3) (hF : ∀ b, w.heap.size ≤ b → ¬ b = g) (hB : w.heap.size ≤ wr.heap.size) (hH : E.H (fun b => wr.heap.size ≤ b) w3 x cs) (r5 : Row w5 ty E.size v' (acc.length + 1) (css.flatten ++ cs))
    (k5 : Keep (fun b => v.ownBlock = some b) (w3.alloc C) w5) (n5 : ∀ b, v'.ownBlock = some b → v.ownBlock = some b ∨ ((w3.alloc C).heap.size ≤ b ∧ b < w5.heap.size)) (hr4 : RdAt B w3 g S4) (hBB : B ≤ w.heap.size) (_ : g < w.heap.size) (hk3 : KeepR g w wr)
    (hm : acc.length + (m + 1) = n) (hL : loopD E.c.dec n S0 = ((acc ++ [x]) ++ (loopD E.c.dec m S4).1, (loopD E.c.dec m S4).2)) (hz : z = (m : Int)) : RlR E ty B w g n S0 v' (.int .i64 z) w5 := by
  have hO5 := hO.push h1 h2 h3 k4 hF hB hH (fun b hb => hb) r5 k5 n5
  obtain ⟨a, c, hv⟩ := hO5.slice
  refine ⟨acc ++ [x], m, S4, by rw [hz], ⟨a, c, hv⟩, hO5, ?_, ?_, by simp; omega, hL⟩
  · exact (hr4.keep ((Keep.refl (fun _ => False) w3).alloc C) (fun _ _ h => h)).stay k5 (fun b e => by have := hO.new b e; exact ⟨hF b this, by omega⟩)
  · have k6 : Keep (fun b => b = g) w (w3.alloc C) := (hk3.trans k4).alloc C
    exact k6.trans k5 (fun b e => .inr (hO.new b e))

section
variable {P : Program} {ops : Array Oper} {rest : List Oper} {o : Oper} {a : Act} {w : World} {Q : Exit → Act → World → Prop}
theorem wpList_build1 {st e : TypeId} {C : Array Value} {ie : TypeInfo} {z : Value} {s : Nat} (hg : o.guard = none) (x : Operand) (ho : o.op = .buildSlice st 1 #[(0, x)]) (hx : a.eval x = .agg C) (hu : P.underlying st = some (.slice e))
    (hie : P.info? e = some ie) (hz : ie.zero = some z) (hs : ie.size = s) (hzs : z.cells.size = s) (hC : C.size = s) (hpos : 0 < s) (hsm : s ≤ 1000)
    (h : wpList P ops Q rest (a.put o.dst (.slice (some ⟨w.heap.size, 0, none⟩) 1 1)) (w.alloc (.cells C e))) : wpList P ops Q (o :: rest) a w := by
  refine wpList_buildSlice hg st e 1 _ ho C ie z hu hie hz (by rw [hs]; omega) (by rw [hs]; omega) ?_ h
  have : (Array.map (fun (x : Nat × Operand) => match x with | (i, x) => (i, a.eval x)) #[(0, x)]).toList = [(0, .agg C)] := by simp [hx]
  rw [show (#[(0, x)].map fun (i, x) => (i, a.eval x)).toList = [(0, .agg C)] from this]
  refine fill_one (s := s) ?_ hC ?_
  · simp [hs]
  · simp [hs]
end

/-- A struct that has just been made into a slice, as a source. -/
theorem src_agg {w : World} {st e t : TypeId} {C : Array Value} {cs : List Value} {s : Nat} (hu : Try.prog.underlying st = some (.slice e)) (hC : C = cs.toArray) (hl : cs.length = s) (h1 : ∀ u ∈ cs, u.oneCell' = true) (b : Nat) (hb : b = w.heap.size) :
    Src Try.prog s st (.slice (some ⟨b, 0, none⟩) 1 1) 1 cs (w.alloc (.cells C t)) := by
  subst hC
  have := Src.lit (P := Try.prog) (w := w) (size := s) (t := t) hu cs.toArray b 1 1 hb (by simp [hl]) (by simpa using h1)
  simpa using this

end Go.Proofs.Ytpefkellcigpkaa.Cd
