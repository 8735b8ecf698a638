/- DirAll's own state: the directory, and the two lists beside it. -/
import Derived.Test.YtejeadccpigepaaSym6
import Derived.Test.YtejeadccpigepaaPutN
import Derived.Test.YtejeadccpigepaaIsT6
namespace Go.Proofs.Ytejeadccpigepaa.Dir
open Go.RowKit Go.Maps Go.Proofs.Ytejeadccpigepaa Go.Proofs.Ytejeadccpigepaa.Ino
set_option maxRecDepth 100000

def ncells (E : List Ent) : List Value := E.map fun e => Value.string ⟨e.1.toArray⟩
def kcells (E : List Ent) : List Value := E.map fun e => Value.int .i64 (e.2 : Int)

theorem ncells_get {E : List Ent} {k : Nat} (hk : k < E.length) : (ncells E)[k]? = some (.string ⟨E[k].1.toArray⟩) := by simp [ncells, hk]
theorem kcells_get {E : List Ent} {k : Nat} (hk : k < E.length) : (kcells E)[k]? = some (.int .i64 (E[k].2 : Int)) := by simp [kcells, hk]
theorem ncells_set (E : List Ent) (k : Nat) (e : Ent) : (ncells E).set k (.string ⟨e.1.toArray⟩) = ncells (E.set k e) := by simp [ncells, List.map_set]
theorem kcells_set (E : List Ent) (k : Nat) (e : Ent) : (kcells E).set k (.int .i64 (e.2 : Int)) = kcells (E.set k e) := by simp [kcells, List.map_set]
theorem ncells_add (E : List Ent) (e : Ent) : ncells E ++ [.string ⟨e.1.toArray⟩] = ncells (E ++ [e]) := by simp [ncells]
theorem kcells_add (E : List Ent) (e : Ent) : kcells E ++ [.int .i64 (e.2 : Int)] = kcells (E ++ [e]) := by simp [kcells]

/-- The directory at p, and the lists names (of EN) and kids (of EK); N: blocks that nothing of these touches. -/
structure DaS (w0 : World) (N : Nat → Prop) (p s most : Nat) (E EN EK : List Ent) (nv kv : Value) (nx : Nat) (wr : World) : Prop where
  file : ∃ F S T, Dq wr F p s S T E ∧ S.most = most ∧ S.nxt ≤ nx ∧ ∀ y, F y → w0.heap.size ≤ y ∧ y < wr.heap.size ∧ nv.ownBlock ≠ some y ∧ kv.ownBlock ≠ some y ∧ ¬ N y
  pn : w0.heap.size ≤ p ∧ nv.ownBlock ≠ some p ∧ kv.ownBlock ≠ some p ∧ ¬ N p
  few : partsE E.length ≤ most
  names : Row wr 9 1 nv EN.length (ncells EN)
  kids : Row wr 3 1 kv EK.length (kcells EK)
  nnew : ∀ b, nv.ownBlock = some b → w0.heap.size ≤ b ∧ ¬ N b
  knew : ∀ b, kv.ownBlock = some b → w0.heap.size ≤ b ∧ ¬ N b
  apart : ∀ b, nv.ownBlock = some b → kv.ownBlock = some b → False
  nlt : ∀ b, N b → b < wr.heap.size ∧ w0.heap.size ≤ b
  keep : Keep (fun _ => False) w0 wr

section
variable {w0 : World} {N : Nat → Prop} {p s most : Nat} {E EN EK : List Ent} {nv kv : Value} {nx : Nat} {wr w' : World}

theorem DaS.goN (h : DaS w0 N p s most E EN EK nv kv nx wr) (k : Keep N wr w') : DaS w0 N p s most E EN EK nv kv nx w' := by
  obtain ⟨F, S, T, h1, h2, h3, h4⟩ := h.file
  have hs := k.size
  refine ⟨⟨F, S, T, h1.keep k h.pn.2.2.2 (fun x hx => (h4 x hx).2.2.2.2), h2, h3, fun y hy => ?_⟩, h.pn, h.few, h.names.keep k (fun b hb => (h.nnew b hb).2), h.kids.keep k (fun b hb => (h.knew b hb).2), h.nnew, h.knew, h.apart, fun b hb => ?_, h.keep.trans k (fun i hi => .inr (h.nlt i hi).2)⟩
  · obtain ⟨a, b, c⟩ := h4 y hy
    exact ⟨a, by omega, c⟩
  · have := h.nlt b hb
    exact ⟨by omega, this.2⟩

theorem DaS.go (h : DaS w0 N p s most E EN EK nv kv nx wr) (k : Keep (fun _ => False) wr w') : DaS w0 N p s most E EN EK nv kv nx w' := h.goN (k.mono (fun _ _ h => h.elim))

theorem DaS.al (h : DaS w0 N p s most E EN EK nv kv nx wr) (o : Obj) : DaS w0 N p s most E EN EK nv kv nx (wr.alloc o) := h.go ((Keep.refl _ wr).alloc o)
theorem DaS.drew (h : DaS w0 N p s most E EN EK nv kv nx wr) : DaS w0 N p s most E EN EK nv kv nx wr.drew := h.go ((Keep.refl _ wr).drew)

theorem DaS.sub {M : Nat → Prop} (h : DaS w0 N p s most E EN EK nv kv nx wr) (hM : ∀ y, M y → N y) : DaS w0 M p s most E EN EK nv kv nx wr := by
  obtain ⟨F, S, T, h1, h2, h3, h4⟩ := h.file
  exact ⟨⟨F, S, T, h1, h2, h3, fun y hy => by obtain ⟨a, b, c, d, e⟩ := h4 y hy; exact ⟨a, b, c, d, fun hm => e (hM y hm)⟩⟩, ⟨h.pn.1, h.pn.2.1, h.pn.2.2.1, fun hm => h.pn.2.2.2 (hM p hm)⟩, h.few, h.names, h.kids, fun b hb => ⟨(h.nnew b hb).1, fun hm => (h.nnew b hb).2 (hM b hm)⟩, fun b hb => ⟨(h.knew b hb).1, fun hm => (h.knew b hb).2 (hM b hm)⟩, h.apart, fun b hb => h.nlt b (hM b hb), h.keep⟩

theorem DaS.more {m : Nat} (h : DaS w0 N p s most E EN EK nv kv nx wr) (hm : nx ≤ m) : DaS w0 N p s most E EN EK nv kv m wr := by
  obtain ⟨F, S, T, h1, h2, h3, h4⟩ := h.file
  exact ⟨⟨F, S, T, h1, h2, by omega, h4⟩, h.pn, h.few, h.names, h.kids, h.nnew, h.knew, h.apart, h.nlt, h.keep⟩

/-- A block more that is left alone: a new one. -/
theorem DaS.box (h : DaS w0 (fun _ => False) p s most E EN EK nv kv nx wr) (o : Obj) : DaS w0 (fun y => y = wr.heap.size) p s most E EN EK nv kv nx (wr.alloc o) := by
  have ha := h.al o
  obtain ⟨F, S, T, h1, h2, h3, h4⟩ := h.file
  obtain ⟨F', S', T', g1, g2, g3, g4⟩ := ha.file
  have hp : p < wr.heap.size := lt_of_block h1.dr.fl.file.head
  have hz : w0.heap.size ≤ wr.heap.size := h.keep.size
  have k : Keep (fun _ => False) wr (wr.alloc o) := (Keep.refl _ wr).alloc o
  refine ⟨⟨F, S, T, h1.keep0 k, h2, h3, fun y hy => ?_⟩, ⟨h.pn.1, h.pn.2.1, h.pn.2.2.1, by omega⟩, h.few, ha.names, ha.kids, fun b hb => ⟨(h.nnew b hb).1, ?_⟩, fun b hb => ⟨(h.knew b hb).1, ?_⟩, h.apart, fun b hb => ⟨by subst hb; simp, by subst hb; exact hz⟩, ha.keep⟩
  · obtain ⟨a, b, c, d, _⟩ := h4 y hy
    exact ⟨a, by simp; omega, c, d, by omega⟩
  · have := h.names.lt hb; omega
  · have := h.kids.lt hb; omega

theorem DaS.names_set {g o n cap : Nat} (h : DaS w0 N p s most E EN EK (.slice (some ⟨g, o, none⟩) n cap) kv nx wr) (hn : n = EN.length) (j : Nat) (e : Ent) :
    DaS w0 N p s most E (EN.set j e) EK (.slice (some ⟨g, o, none⟩) n cap) kv nx (wr.setCell ⟨g, o + j, none⟩ (.string ⟨e.1.toArray⟩)) := by
  subst hn
  obtain ⟨F, S, T, h1, h2, h3, h4⟩ := h.file
  have k : Keep (fun x => x = g) wr (wr.setCell ⟨g, o + j, none⟩ (.string ⟨e.1.toArray⟩)) := (Keep.refl _ wr).setCell _ _ (.inl rfl)
  have hg := h.nnew g rfl
  have hs := k.size
  refine ⟨⟨F, S, T, h1.keep k (fun e => h.pn.2.1 (by rw [e]; rfl)) (fun x hx e => (h4 x hx).2.2.1 (by rw [e]; rfl)), h2, h3, fun y hy => ?_⟩, h.pn, h.few, ?_, h.kids.keep k (fun b hb e => h.apart g rfl (by rw [← e]; exact hb)), h.nnew, h.knew, h.apart, fun b hb => ?_, h.keep.trans k (fun i hi => .inr (by rw [hi]; exact hg.1))⟩
  · obtain ⟨a, b, c⟩ := h4 y hy
    exact ⟨a, by omega, c⟩
  · have h5 := h.names.stored j (.string ⟨e.1.toArray⟩)
    rw [ncells_set] at h5
    rw [List.length_set]
    exact h5
  · have := h.nlt b hb
    exact ⟨by omega, this.2⟩

theorem DaS.kids_set {g o n cap : Nat} (h : DaS w0 N p s most E EN EK nv (.slice (some ⟨g, o, none⟩) n cap) nx wr) (hn : n = EK.length) (j : Nat) (e : Ent) :
    DaS w0 N p s most E EN (EK.set j e) nv (.slice (some ⟨g, o, none⟩) n cap) nx (wr.setCell ⟨g, o + j, none⟩ (.int .i64 (e.2 : Int))) := by
  subst hn
  obtain ⟨F, S, T, h1, h2, h3, h4⟩ := h.file
  have k : Keep (fun x => x = g) wr (wr.setCell ⟨g, o + j, none⟩ (.int .i64 (e.2 : Int))) := (Keep.refl _ wr).setCell _ _ (.inl rfl)
  have hg := h.knew g rfl
  have hs := k.size
  refine ⟨⟨F, S, T, h1.keep k (fun e => h.pn.2.2.1 (by rw [e]; rfl)) (fun x hx e => (h4 x hx).2.2.2.1 (by rw [e]; rfl)), h2, h3, fun y hy => ?_⟩, h.pn, h.few, h.names.keep k (fun b hb e => h.apart g (by rw [← e]; exact hb) rfl), ?_, h.nnew, h.knew, h.apart, fun b hb => ?_, h.keep.trans k (fun i hi => .inr (by rw [hi]; exact hg.1))⟩
  · obtain ⟨a, b, c⟩ := h4 y hy
    exact ⟨a, by omega, c⟩
  · have h5 := h.kids.stored j (.int .i64 (e.2 : Int))
    rw [kcells_set] at h5
    rw [List.length_set]
    exact h5
  · have := h.nlt b hb
    exact ⟨by omega, this.2⟩

theorem DaS.names_add {v' : Value} {n : Nat} (h : DaS w0 N p s most E EN EK nv kv nx wr) (hn : n = EN.length) (e : Ent) (hr : Row w' 9 1 v' (n + 1) (ncells EN ++ [.string ⟨e.1.toArray⟩])) (hK : Keep (fun b => nv.ownBlock = some b) wr w')
    (hb : ∀ b, v'.ownBlock = some b → nv.ownBlock = some b ∨ (wr.heap.size ≤ b ∧ b < w'.heap.size)) : DaS w0 N p s most E (EN ++ [e]) EK v' kv nx w' := by
  subst hn
  obtain ⟨F, S, T, h1, h2, h3, h4⟩ := h.file
  have hs := hK.size
  have hz := h.keep.size
  have hp : p < wr.heap.size := lt_of_block h1.dr.fl.file.head
  refine ⟨⟨F, S, T, h1.keep hK h.pn.2.1 (fun x hx => (h4 x hx).2.2.1), h2, h3, fun y hy => ?_⟩, ⟨h.pn.1, fun e => ?_, h.pn.2.2⟩, h.few, ?_, h.kids.keep hK (fun b hb e => h.apart b e hb), fun b e => ?_, h.knew, fun b e e' => ?_, fun b hb => ?_, h.keep.trans hK (fun i hi => .inr (h.nnew i hi).1)⟩
  · obtain ⟨a, b, c, d⟩ := h4 y hy
    refine ⟨a, by omega, fun e => ?_, d⟩
    rcases hb y e with h5 | h5
    · exact c h5
    · omega
  · rcases hb p e with h5 | h5
    · exact h.pn.2.1 h5
    · omega
  · rw [ncells_add] at hr
    rw [List.length_append]
    exact hr
  · rcases hb b e with h5 | h5
    · exact h.nnew b h5
    · exact ⟨by omega, fun hN => by have := h.nlt b hN; omega⟩
  · rcases hb b e with h5 | h5
    · exact h.apart b h5 e'
    · have := h.kids.lt e'; omega
  · have := h.nlt b hb
    exact ⟨by omega, this.2⟩

theorem DaS.kids_add {v' : Value} {n : Nat} (h : DaS w0 N p s most E EN EK nv kv nx wr) (hn : n = EK.length) (e : Ent) (hr : Row w' 3 1 v' (n + 1) (kcells EK ++ [.int .i64 (e.2 : Int)])) (hK : Keep (fun b => kv.ownBlock = some b) wr w')
    (hb : ∀ b, v'.ownBlock = some b → kv.ownBlock = some b ∨ (wr.heap.size ≤ b ∧ b < w'.heap.size)) : DaS w0 N p s most E EN (EK ++ [e]) nv v' nx w' := by
  subst hn
  obtain ⟨F, S, T, h1, h2, h3, h4⟩ := h.file
  have hs := hK.size
  have hz := h.keep.size
  have hp : p < wr.heap.size := lt_of_block h1.dr.fl.file.head
  refine ⟨⟨F, S, T, h1.keep hK h.pn.2.2.1 (fun x hx => (h4 x hx).2.2.2.1), h2, h3, fun y hy => ?_⟩, ⟨h.pn.1, h.pn.2.1, fun e => ?_, h.pn.2.2.2⟩, h.few, h.names.keep hK (fun b hb e => h.apart b hb e), ?_, h.nnew, fun b e => ?_, fun b e' e => ?_, fun b hb => ?_, h.keep.trans hK (fun i hi => .inr (h.knew i hi).1)⟩
  · obtain ⟨a, b, c, d, e⟩ := h4 y hy
    refine ⟨a, by omega, c, fun e' => ?_, e⟩
    rcases hb y e' with h5 | h5
    · exact d h5
    · omega
  · rcases hb p e with h5 | h5
    · exact h.pn.2.2.1 h5
    · omega
  · rw [kcells_add] at hr
    rw [List.length_append]
    exact hr
  · rcases hb b e with h5 | h5
    · exact h.knew b h5
    · exact ⟨by omega, fun hN => by have := h.nlt b hN; omega⟩
  · rcases hb b e with h5 | h5
    · exact h.apart b e' h5
    · have := h.names.lt e'; omega
  · have := h.nlt b hb
    exact ⟨by omega, this.2⟩

/-- What a put comes to. -/
structure DaP (w0 : World) (N : Nat → Prop) (p s most : Nat) (E EN EK : List Ent) (nv kv : Value) (nx i : Nat) (e : Ent) (wr : World) (x : Ending) (w' : World) : Prop where
  ex : (partsE (putE E i e).length ≤ most ∧ x = .returned .nilIface ∧ DaS w0 N p s most (putE E i e) EN EK nv kv (nx + 203) w') ∨
    (most < partsE (putE E i e).length ∧ ∃ r lo, x = .returned (.iface 127 (.pointer (some ⟨r, 0, none⟩))) ∧ DaS w0 N p s most E EN EK nv kv (nx + 203) w' ∧ ErrAt w' lo r)
  stay : ∀ y, N y → w'.heap[y]? = wr.heap[y]?

theorem DaS.put (h : DaS w0 N p s most E EN EK nv kv nx wr) {i : Nat} {e : Ent} {F : Nat → Prop} {S : Sto} {T : List Nat} (h2 : S.most = most) (h3 : S.nxt ≤ nx)
    (h4 : ∀ y, F y → w0.heap.size ≤ y ∧ y < wr.heap.size ∧ nv.ownBlock ≠ some y ∧ kv.ownBlock ≠ some y ∧ ¬ N y) {x : Ending} {w2 w' : World} (k2 : Keep (fun _ => False) wr w2) (hP : PutA w2 F p s S T E i e x w') :
    DaP w0 N p s most E EN EK nv kv nx i e wr x w' := by
  have kk : Keep (fun y => F y ∨ y = p) wr w' := (k2.mono (fun _ _ h => h.elim)).trans hP.keep (fun y hy => .inl hy)
  have hs := kk.size
  have s2 := k2.size
  have hz := h.keep.size
  have nlt : ∀ b, N b → b < w'.heap.size ∧ w0.heap.size ≤ b := fun b hb => by have := h.nlt b hb; exact ⟨by omega, this.2⟩
  have hkp : Keep (fun _ => False) w0 w' := h.keep.trans kk (fun i hi => .inr (by
    rcases hi with hi | hi
    · exact (h4 i hi).1
    · rw [hi]; exact h.pn.1))
  have hn : Row w' 9 1 nv EN.length (ncells EN) := h.names.keep kk (fun b hb e => by
    rcases e with e | e
    · exact (h4 b e).2.2.1 hb
    · exact h.pn.2.1 (by rw [← e]; exact hb))
  have hk : Row w' 3 1 kv EK.length (kcells EK) := h.kids.keep kk (fun b hb e => by
    rcases e with e | e
    · exact (h4 b e).2.2.2.1 hb
    · exact h.pn.2.2.1 (by rw [← e]; exact hb))
  have hF : ∀ {w3 : World} {F' : Nat → Prop} {S' : Sto} {T' : List Nat} {E' : List Ent}, Dq w3 F' p s S' T' E' → w3 = w' → (∀ y, F' y → F y ∨ w2.heap.size ≤ y) → (∀ y, F' y → y < w'.heap.size) → ∀ y, F' y → w0.heap.size ≤ y ∧ y < w'.heap.size ∧ nv.ownBlock ≠ some y ∧ kv.ownBlock ≠ some y ∧ ¬ N y := by
    intro w3 F' S' T' E' _ _ hf hlt y hy
    rcases hf y hy with h5 | h5
    · obtain ⟨a, b, c⟩ := h4 y h5
      exact ⟨a, hlt y hy, c⟩
    · exact ⟨by omega, hlt y hy, fun e => by have := h.names.lt e; omega, fun e => by have := h.kids.lt e; omega, fun hN => by have := h.nlt y hN; omega⟩
  have hlt : ∀ {F' : Nat → Prop} {S' : Sto} {T' : List Nat} {E' : List Ent}, Dq w' F' p s S' T' E' → ∀ y, F' y → y < w'.heap.size := by
    intro F' S' T' E' hd y hy
    obtain ⟨b, D, hs⟩ := hd.dr.fl.file.sto
    exact hs.lt y hy
  refine ⟨?_, fun y hy => kk.block y (h.nlt y hy).1 (fun e => ?_)⟩
  · rcases hP.ex with ⟨a, b, F', S', T', c, d, d2, f⟩ | ⟨a, r, nx', F', b, c, d, f, g⟩
    · rw [h2] at a d
      exact .inl ⟨a, b, ⟨F', S', T', c, d, by omega, hF c rfl f (hlt c)⟩, h.pn, a, hn, hk, h.nnew, h.knew, h.apart, nlt, hkp⟩
    · rw [h2] at a
      exact .inr ⟨a, r, _, b, ⟨⟨F', _, T, d, h2, by simp only []; omega, hF d rfl f (hlt d)⟩, h.pn, h.few, hn, hk, h.nnew, h.knew, h.apart, nlt, hkp⟩, g⟩
  · rcases e with e | e
    · exact (h4 y e).2.2.2.2 hy
    · exact h.pn.2.2.2 (by rw [← e]; exact hy)

end

end Go.Proofs.Ytejeadccpigepaa.Dir
/- DirAll's own state: what each call makes of it; what its search finds. -/
namespace Go.Proofs.Ytejeadccpigepaa.Dir
open Go.RowKit Go.Maps Go.Proofs.Ytejeadccpigepaa Go.Proofs.Ytejeadccpigepaa.Ino
set_option maxRecDepth 100000

section
variable {w0 : World} {N : Nat → Prop} {p s most : Nat} {E EN EK : List Ent} {nv kv : Value} {nx : Nat} {wr w' : World}

theorem DaS.stay (h : DaS w0 N p s most E EN EK nv kv nx wr) (k : Keep (fun _ => False) wr w') : ∀ y, N y → w'.heap[y]? = wr.heap[y]? := fun y hy => k.block y (h.nlt y hy).1 (fun h => h)

theorem da_size (h : DaS w0 N p s most E EN EK nv kv nx wr) : Calls Try.prog 12 #[.pointer (some ⟨p, 0, none⟩)] wr fun e w' => e = .returned (.int .i64 ((32 * E.length : Nat) : Int)) ∧ wr = w' := by
  obtain ⟨F, S, T, h1, _⟩ := h.file
  exact size_any h1.dr.fl.file

theorem da_ok (h : DaS w0 N p s most E EN EK nv kv nx wr) : ∀ e ∈ E, okE e := by
  obtain ⟨F, S, T, h1, _⟩ := h.file
  exact h1.dr.ok

theorem da_add_exists (h : DaS w0 N p s most E EN EK nv kv nx wr) (nm : ByteArray) (k : Int) (hm : mayB nm.data.toList = true) (hk : 0 < k ∧ k < 32) {q : Nat} (hq : plc E nm.data.toList = some q) :
    Calls Try.prog 8 #[.pointer (some ⟨p, 0, none⟩), .string nm, .int .i64 k] wr fun e w' => e = .returned (apiErr 7) ∧ DaS w0 N p s most E EN EK nv kv nx w' ∧ ∀ y, N y → w'.heap[y]? = wr.heap[y]? := by
  obtain ⟨F, S, T, h1, _⟩ := h.file
  refine (add_exists h1.dr nm k hm hk hq).mono ?_
  rintro e w' ⟨rfl, k1⟩
  exact ⟨rfl, h.go k1, h.stay k1⟩

theorem slotOf_le (E : List Ent) : slotOf E ≤ E.length := by
  unfold slotOf
  cases hp : plc E [] with
  | none => exact Nat.le_refl _
  | some k =>
    unfold plc at hp
    rw [List.findIdx?_eq_some_iff_getElem] at hp
    obtain ⟨h, _⟩ := hp
    exact Nat.le_of_lt h

theorem plc_lt {nm : List UInt8} {k : Nat} (hp : plc E nm = some k) : k < E.length := by
  unfold plc at hp
  rw [List.findIdx?_eq_some_iff_getElem] at hp
  obtain ⟨h, _⟩ := hp
  exact h

theorem PutA.ret {w w' : World} {F : Nat → Prop} {S : Sto} {T : List Nat} {i : Nat} {e : Ent} {x : Ending} (h : PutA w F p s S T E i e x w') : ∃ v, x = .returned v := by
  rcases h.ex with ⟨_, b, _⟩ | ⟨_, _, _, _, b, _⟩
  · exact ⟨_, b⟩
  · exact ⟨_, b⟩

theorem da_add (h : DaS w0 N p s most E EN EK nv kv nx wr) (hx : nx + 203 < 100000) (hE : E.length ≤ 100) (nm : ByteArray) (k : Nat) (hm : mayB nm.data.toList = true) (h0 : 0 < k) (hk : k < 32) (hq : plc E nm.data.toList = none) :
    Calls Try.prog 8 #[.pointer (some ⟨p, 0, none⟩), .string nm, .int .i64 (k : Int)] wr (DaP w0 N p s most E EN EK nv kv nx (slotOf E) (nm.data.toList, k) wr) := by
  obtain ⟨F, S, T, h1, h2, h3, h4⟩ := h.file
  have he : okE (nm.data.toList, k) := .inr ⟨hm, h0, hk⟩
  have hl : (putE E (slotOf E) (nm.data.toList, k)).length ≤ 112 := by rw [putE_length]; split <;> omega
  refine (add_of (Q := fun w2 x w' => PutA w2 F p s S T E (slotOf E) (nm.data.toList, k) x w') h1.dr nm (k : Int) hm (by omega) hq (fun w2 k2 => ?_)).mono ?_
  · refine (put_any (h1.keep0 k2) (by omega) (slotOf E) (slotOf_le E) _ he hl).mono ?_
    intro x w' hP
    obtain ⟨v, hv⟩ := hP.ret
    exact ⟨v, hv, hP⟩
  · rintro x w' ⟨w2, k2, hP⟩
    exact h.put h2 h3 h4 k2 hP

theorem da_rem_none (h : DaS w0 N p s most E EN EK nv kv nx wr) (nm : ByteArray) (hm : mayB nm.data.toList = true) (hq : plc E nm.data.toList = none) :
    Calls Try.prog 10 #[.pointer (some ⟨p, 0, none⟩), .string nm] wr fun e w' => e = .returned (apiErr 6) ∧ DaS w0 N p s most E EN EK nv kv nx w' ∧ ∀ y, N y → w'.heap[y]? = wr.heap[y]? := by
  obtain ⟨F, S, T, h1, _⟩ := h.file
  refine (remove_none h1.dr nm hm hq).mono ?_
  rintro e w' ⟨rfl, k1⟩
  exact ⟨rfl, h.go k1, h.stay k1⟩

theorem da_rem (h : DaS w0 N p s most E EN EK nv kv nx wr) (hx : nx + 203 < 100000) (nm : ByteArray) (hm : mayB nm.data.toList = true) {k : Nat} (hq : plc E nm.data.toList = some k) :
    Calls Try.prog 10 #[.pointer (some ⟨p, 0, none⟩), .string nm] wr fun e w' => e = .returned .nilIface ∧ DaS w0 N p s most (E.set k ([], 0)) EN EK nv kv (nx + 203) w' ∧ ∀ y, N y → w'.heap[y]? = wr.heap[y]? := by
  obtain ⟨F, S, T, h1, h2, h3, h4⟩ := h.file
  have hk := plc_lt hq
  have hpe : putE E k ([], 0) = E.set k ([], 0) := by unfold putE; rw [if_pos hk]
  have hfew := h1.few
  refine (remove_of (Q := fun w2 x w' => PutA w2 F p s S T E k ([], 0) x w') h1.dr nm hm hq (fun w2 k2 => ?_)).mono ?_
  · refine (put_any (h1.keep0 k2) (by omega) k (by omega) ([], 0) (.inl ⟨rfl, rfl⟩) (by rw [hpe, List.length_set]; omega)).mono ?_
    intro x w' hP
    obtain ⟨v, hv⟩ := hP.ret
    exact ⟨v, hv, hP⟩
  · rintro x w' ⟨w2, k2, hP⟩
    have hd := h.put h2 h3 h4 k2 hP
    rcases hd.ex with ⟨_, b, c⟩ | ⟨a, _⟩
    · rw [hpe] at c
      exact ⟨b, c, hd.stay⟩
    · rw [hpe, List.length_set] at a
      have := h.few; omega

theorem da_find_none (h : DaS w0 N p s most E EN EK nv kv nx wr) (nm : ByteArray) (hm : mayB nm.data.toList = true) (hq : plc E nm.data.toList = none) :
    Calls Try.prog 11 #[.pointer (some ⟨p, 0, none⟩), .string nm] wr fun e w' => e = .returned (.tuple #[.int .i64 0, apiErr 6]) ∧ DaS w0 N p s most E EN EK nv kv nx w' ∧ ∀ y, N y → w'.heap[y]? = wr.heap[y]? := by
  obtain ⟨F, S, T, h1, _⟩ := h.file
  refine (find_none h1.dr nm hm hq).mono ?_
  rintro e w' ⟨rfl, k1⟩
  exact ⟨rfl, h.go k1, h.stay k1⟩

theorem da_find (h : DaS w0 N p s most E EN EK nv kv nx wr) (nm : ByteArray) (hm : mayB nm.data.toList = true) {k : Nat} (hq : plc E nm.data.toList = some k) {z : Int} (hz : ∃ hk : k < E.length, z = (E[k].2 : Int)) :
    Calls Try.prog 11 #[.pointer (some ⟨p, 0, none⟩), .string nm] wr fun e w' => e = .returned (.tuple #[.int .i64 z, .nilIface]) ∧ DaS w0 N p s most E EN EK nv kv nx w' ∧ ∀ y, N y → w'.heap[y]? = wr.heap[y]? := by
  obtain ⟨F, S, T, h1, _⟩ := h.file
  obtain ⟨hk, rfl⟩ := hz
  refine (find_some h1.dr nm hm hq hk).mono ?_
  rintro e w' ⟨rfl, k1⟩
  exact ⟨rfl, h.go k1, h.stay k1⟩

/-! ### the search from the end -/
def scF (E : List Ent) (nm : List UInt8) (j : Nat) : Int := match plc (E.drop j) nm with
  | some i => ((i + j : Nat) : Int)
  | none => -1

theorem scF_zero (E : List Ent) (nm : List UInt8) : scF E nm 0 = plcI (plc E nm) := by
  unfold scF
  rw [List.drop_zero]
  cases plc E nm <;> rfl

theorem scF_end (E : List Ent) (nm : List UInt8) : scF E nm E.length = -1 := by
  unfold scF
  rw [List.drop_length]
  rfl

theorem scF_hit (E : List Ent) {nm : List UInt8} {j : Nat} (hj : j < E.length) (h : E[j].1 = nm) : scF E nm j = (j : Int) := by
  unfold scF
  rw [List.drop_eq_getElem_cons hj]
  have : plc (E[j] :: E.drop (j + 1)) nm = some 0 := by
    unfold plc
    rw [List.findIdx?_cons, if_pos (by simp [h])]
  rw [this]
  simp

theorem scF_miss (E : List Ent) {nm : List UInt8} {j : Nat} (hj : j < E.length) (h : E[j].1 ≠ nm) : scF E nm j = scF E nm (j + 1) := by
  unfold scF
  rw [List.drop_eq_getElem_cons hj]
  have : plc (E[j] :: E.drop (j + 1)) nm = (plc (E.drop (j + 1)) nm).map (· + 1) := by
    unfold plc
    rw [List.findIdx?_cons, if_neg (by simp [h])]
  rw [this]
  cases plc (E.drop (j + 1)) nm with
  | none => rfl
  | some i => simp; omega

/-- No name twice. -/
def Dist (E : List Ent) : Prop := ∀ (i j : Nat) (a b : Ent), i ≠ j → E[i]? = some a → E[j]? = some b → a.1 = b.1 → a.1 = []

theorem Dist.nil : Dist [] := fun i j a b _ h => by simp at h

theorem plc_none_ne {nm : List UInt8} (h : plc E nm = none) : ∀ (j : Nat) (a : Ent), E[j]? = some a → a.1 ≠ nm := fun j a ha => by
  unfold plc at h
  rw [List.findIdx?_eq_none_iff] at h
  have := h a (List.mem_of_getElem? ha)
  simpa using this

theorem Dist.put (h : Dist E) {i : Nat} {e : Ent} (hi : i ≤ E.length) (he : e.1 = [] ∨ plc E e.1 = none) : Dist (putE E i e) := by
  intro x y a b hxy hx hy hab
  have lx := (List.getElem?_eq_some_iff.1 hx).1
  have ly := (List.getElem?_eq_some_iff.1 hy).1
  rw [putE_get e hi x lx] at hx
  rw [putE_get e hi y ly] at hy
  by_cases e1 : x = i
  · rw [if_pos e1] at hx
    rw [if_neg (fun e2 => hxy (e1.trans e2.symm))] at hy
    cases hx
    rcases he with he | he
    · exact he
    · exact absurd hab.symm (plc_none_ne he y b hy)
  · rw [if_neg e1] at hx
    by_cases e2 : y = i
    · rw [if_pos e2] at hy
      cases hy
      rcases he with he | he
      · rw [hab]; exact he
      · exact absurd hab (plc_none_ne he x a hx)
    · rw [if_neg e2] at hy
      exact h x y a b hxy hx hy hab

/-- What has no name that may be is found nowhere. -/
theorem plc_mayB (h : ∀ e ∈ E, okE e) {nm : List UInt8} (hn : nm ≠ []) (hm : mayB nm = false) : plc E nm = none := by
  unfold plc
  rw [List.findIdx?_eq_none_iff]
  intro a ha
  rw [beq_eq_false_iff_ne]
  rintro rfl
  rcases h a ha with ⟨h1, _⟩ | ⟨h1, _⟩
  · exact hn h1
  · rw [hm] at h1; cases h1

end

end Go.Proofs.Ytejeadccpigepaa.Dir
/- listed answers true. -/
namespace Go.Proofs.Ytejeadccpigepaa.Dir
open Go.RowKit Go.Maps Go.Proofs.Ytejeadccpigepaa Go.Proofs.Ytejeadccpigepaa.Ino
set_option maxRecDepth 100000

theorem bless_cmp : ∀ a b : List UInt8, Op.bytesLess a b = decide (Lib.compareBytes a b < 0)
  | [], [] => by simp [Op.bytesLess, Lib.compareBytes]
  | [], _ :: _ => by simp [Op.bytesLess, Lib.compareBytes]
  | _ :: _, [] => by simp [Op.bytesLess, Lib.compareBytes]
  | a :: ar, b :: br => by
    rw [Op.bytesLess, Lib.compareBytes]
    by_cases h1 : a < b
    · simp [h1]
    · by_cases h2 : b < a
      · have : a ≠ b := fun e => by rw [e] at h2; exact UInt8.lt_irrefl b h2
        simp [h1, h2, this]
      · have : a = b := u8_tri h1 h2
        subst this
        simp [h1, bless_cmp ar br]

theorem named_of {e : Ent} (h : e.1 ≠ []) : named e = true := by simp [named, h]

/-- Of those that are listed each is another name. -/
theorem listed_lt {E L : List Ent} (hd : Dist E) (hp : L.Perm (E.filter named)) (hr : Ris ltE L) {q : Nat} (hq : q + 1 < L.length) : Lib.compareBytes L[q].1 L[q + 1].1 < 0 := by
  have h1 : ltE L[q + 1] L[q] = false := List.pairwise_iff_getElem.1 hr q (q + 1) (by omega) hq (by omega)
  have h2 : Lib.compareBytes L[q + 1].1 L[q].1 ≥ 0 := by simpa [ltE] using h1
  have h3 := cmp_swap L[q + 1].1 L[q].1
  rcases Int.lt_or_eq_of_le (show Lib.compareBytes L[q].1 L[q + 1].1 ≤ 0 by omega) with h4 | h4
  · exact h4
  · exfalso
    have he := cmp_zero _ _ h4
    have hnd : (E.filter named).Pairwise (fun a b => a.1 ≠ b.1) := by
      rw [List.pairwise_filter]
      rw [List.pairwise_iff_getElem]
      intro i j hi hj hij ha hb e
      have := hd i j _ _ (by omega) (List.getElem?_eq_getElem hi) (List.getElem?_eq_getElem hj) e
      simp [named, this] at ha
    have hL : L.Pairwise (fun a b => a.1 ≠ b.1) := hp.symm.pairwise hnd (fun {a b} h e => h e.symm)
    exact List.pairwise_iff_getElem.1 hL q (q + 1) (by omega) hq (by omega) he

theorem take_filter {E : List Ent} {i : Nat} (hi : i < E.length) : ((E.take (i + 1)).filter named).length = ((E.take i).filter named).length + (if named E[i] = true then 1 else 0) := by
  rw [List.take_succ_eq_append_getElem hi, List.filter_append, List.length_append]
  congr 1
  by_cases h : named E[i] = true
  · simp [h]
  · simp [h]

/-- The names that are looked for. -/
structure LdR (w2 : World) (E : List Ent) (n : Nat) (cv iv : Value) (wr : World) : Prop where
  ex : ∃ i c : Nat, i ≤ n ∧ c ≤ i ∧ iv = .int .i64 (i : Int) ∧ cv = .int .i64 (c : Int) ∧ c = ((E.take i).filter named).length ∧ Keep (fun _ => False) w2 wr

/-- One of them. -/
structure LdI (w2 : World) (L : List Ent) (x : Ent) (n : Nat) (bv iv : Value) (wr : World) : Prop where
  ex : ∃ (j : Nat) (z : Bool), j ≤ n ∧ iv = .int .i64 (j : Int) ∧ bv = .bool z ∧ z = decide (x ∈ L.take j) ∧ Keep (fun _ => False) w2 wr

/-- They rise. -/
structure LdK (w2 : World) (n : Nat) (iv : Value) (wr : World) : Prop where
  ex : ∃ j : Nat, 1 ≤ j ∧ j ≤ n + 1 ∧ iv = .int .i64 (j : Int) ∧ Keep (fun _ => False) w2 wr

theorem mem_take {L : List Ent} {x : Ent} {j : Nat} (hj : j < L.length) : decide (x ∈ L.take (j + 1)) = (decide (x ∈ L.take j) || decide (x = L[j])) := by
  have h : x ∈ L.take (j + 1) ↔ x ∈ L.take j ∨ x = L[j] := by rw [List.take_succ_eq_append_getElem hj, List.mem_append, List.mem_singleton]
  rw [← Bool.decide_or]
  exact decide_eq_decide.2 h

set_option maxHeartbeats 4000000 in
theorem listed_any {w w1 : World} {p s m : Nat} {E : List Ent} {nv kv : Value} {nx : Nat} (hd : Dist E) (hD : DaS w (fun _ => False) p s m E E E nv kv nx w1) :
    Calls Try.prog 13 #[.pointer (some ⟨p, 0, none⟩), nv, kv] w1 fun e w' => e = .returned (.bool true) ∧ Keep (fun _ => False) w1 w' := by
  obtain ⟨F, S, T, h1, _⟩ := hD.file
  have hE := h1.few
  have HLI := Lib.hid (list6_any h1.dr)
  obtain ⟨an, n, cn, rfl, hn, hcn1, hcn2⟩ : ∃ a n c, nv = .slice a n c ∧ n = E.length ∧ n ≤ c ∧ c ≤ maxLen := by
    obtain ⟨a, c, h1, h2, h3⟩ := hD.names.slice
    exact ⟨a, _, c, h1, rfl, h2, h3⟩
  obtain ⟨ak, ck, rfl, hck1, hck2⟩ : ∃ a c, kv = .slice a n c ∧ n ≤ c ∧ c ≤ maxLen := by
    obtain ⟨a, c, h1, h2, h3⟩ := hD.kids.slice
    exact ⟨a, c, by rw [h1, hn], by omega, h3⟩
  unfold maxLen at hcn2 hck2
  have hrn : Row w1 9 1 (.slice an n cn) n (ncells E) := by have := hD.names; rw [← hn] at this; exact this
  have hrk : Row w1 3 1 (.slice ak n ck) n (kcells E) := by have := hD.kids; rw [← hn] at this; exact this
  have HRN := Lib.hid hrn; have HRK := Lib.hid hrk; have HN := Lib.hid hn; have HDI := Lib.hid hd
  have hn112 : n ≤ 112 := by omega
  clear h1 hD hrn hrk hn hd hE
  go_enter Try.func13, Try.ntmps13
  go_wp2_with (go_at_call 14; (with_reducible refine HLI.out.mono ?_); rintro e w2 hls; obtain ⟨ad, cap, nl, LL, rfl, hp, hri, hlen, hc1, hc2, hrow⟩ := hls.ex; have HP := Lib.hid hp; have HRI := Lib.hid hri; have HLEN := Lib.hid hlen; have HROW := Lib.hid hrow; have K2 := Lib.hid hls.keep; unfold maxLen at hc2; clear hp hri hlen hrow hls)
  have hnl : nl ≤ 112 := by
    have := HP.out.length_eq
    have h2 := List.length_filter_le named E
    have := HLEN.out; have := HN.out
    omega
  go_loopw [9, 10] (fun cv iv wr => LdR w2 E n cv iv wr) (fun _ iv _ => n - (intOf iv).toNat)
  case atStart => exact ⟨0, 0, by omega, by omega, rfl, rfl, by simp, Keep.refl _ _⟩
  case round =>
    obtain ⟨i, c, hin, hci, rfl, rfl, hc, hK⟩ := hrel.ex
    have HC := Lib.hid hc; have HK := Lib.hid hK
    clear hrel hc hK
    by_cases hlt : i < n
    · have hiE : i < E.length := by rw [← HN.out]; exact hlt
      obtain ⟨g0, o0, _, hv0, -, -⟩ := HRN.out.full (by omega)
      simp only [Value.slice.injEq] at hv0
      obtain ⟨had, -, -⟩ := hv0
      subst had
      obtain ⟨g1, o1, _, hv1, -, -⟩ := HRK.out.full (by omega)
      simp only [Value.slice.injEq] at hv1
      obtain ⟨had, -, -⟩ := hv1
      subst had
      have KK := Lib.hid (K2.out.trans HK.out (fun _ h => h.elim))
      have c0 := (KK.out.cell (HRN.out.lt (k := g0) rfl) (fun h => h) _).trans ((HRN.out.cellAt i (by omega)).trans (ncells_get hiE))
      obtain ⟨x, hx⟩ : ∃ x, x = E[i] := ⟨_, rfl⟩
      rw [← hx] at c0
      obtain ⟨s2, hs2⟩ : ∃ s2 : ByteArray, s2 = ⟨x.1.toArray⟩ := ⟨_, rfl⟩
      rw [← hs2] at c0
      have HS2 : Hid (x.1 = s2.data.toList) := Lib.hid (name_eq.1 hs2.symm)
      have HX := Lib.hid hx
      clear hs2 hx
      by_cases h0 : s2.data.toList = []
      · have H0 : Hid (named x = false) := Lib.hid (by simp [named, HS2.out.trans h0])
        have e0 : s2.toList.isEmpty = true := by rw [ByteArray.toList_eq]; simpa using h0
        clear h0
        go_wp2
        go_roundw
        case rel => exact ⟨i + 1, c, by omega, by omega, by go_num, rfl, by rw [take_filter hiE, ← HX.out, H0.out, HC.out]; simp, HK.out⟩
        case measure => simp [intOf] <;> omega
      · have H0 : Hid (named x = true) := Lib.hid (named_of (fun e => h0 (HS2.out.symm.trans e)))
        have e0 : s2.toList.isEmpty = false := by rw [ByteArray.toList_eq]; simpa using h0
        have c1 := (KK.out.cell (HRK.out.lt (k := g1) rfl) (fun h => h) _).trans ((HRK.out.cellAt i (by omega)).trans (kcells_get hiE))
        rw [← HX.out] at c1
        obtain ⟨y, hy⟩ : ∃ y : Int, y = (x.2 : Int) := ⟨_, rfl⟩
        rw [← hy] at c1
        have HY := Lib.hid hy
        have C0 := Lib.hid c0; have C1 := Lib.hid c1
        clear h0 hy
        go_wp2
        obtain ⟨wz, hwz⟩ : ∃ wz, wz = wr := ⟨wr, rfl⟩
        subst wr
        clear c0 c1
        go_loopw [11, 12] (fun bv iv wr => LdI wz LL x nl bv iv wr) (fun _ iv _ => nl - (intOf iv).toNat)
        case atStart => exact ⟨0, false, by omega, rfl, rfl, by simp, Keep.refl _ _⟩
        case round =>
          obtain ⟨j, z, hj, rfl, rfl, hz, hK3⟩ := hrel.ex
          have HZ := Lib.hid hz; have HK3 := Lib.hid hK3
          clear hrel hz hK3
          by_cases hlt2 : j < nl
          · have hjL : j < LL.length := by rw [HLEN.out]; exact hlt2
            obtain ⟨g2, o2, _, hv2, -, -⟩ := HROW.out.full (by omega)
            simp only [Value.slice.injEq] at hv2
            obtain ⟨had, -, -⟩ := hv2
            subst had
            have K4 := HK.out.trans HK3.out (fun _ h => h.elim)
            have c0 := (HK3.out.cell (World.block_lt_of_cell? _ _ C0.out) (fun h => h) _).trans C0.out
            have c1 := (HK3.out.cell (World.block_lt_of_cell? _ _ C1.out) (fun h => h) _).trans C1.out
            have d0 := (K4.cell (HROW.out.lt (k := g2) rfl) (fun h => h) _).trans ((HROW.out.cellAt (j * 2) (by omega)).trans (ecells_get0 LL j hjL))
            have d1 := (K4.cell (HROW.out.lt (k := g2) rfl) (fun h => h) _).trans ((HROW.out.cellAt (j * 2 + 1) (by omega)).trans (ecells_get1 LL j hjL))
            rw [← Nat.add_assoc] at d1
            obtain ⟨s3, hs3⟩ : ∃ s3 : ByteArray, s3 = ⟨LL[j].1.toArray⟩ := ⟨_, rfl⟩
            obtain ⟨y3, hy3⟩ : ∃ y : Int, y = (LL[j].2 : Int) := ⟨_, rfl⟩
            rw [← hs3] at d0
            rw [← hy3] at d1
            have HS3 : Hid (LL[j].1 = s3.data.toList) := Lib.hid (name_eq.1 hs3.symm)
            have HY3 := Lib.hid hy3
            clear hs3 hy3 K4
            cases z with
            | true =>
              go_wp2_with fail
              go_region
              all_goals
                go_wp2_with fail
                go_roundw
                case rel => exact ⟨j + 1, true, by omega, by go_num, rfl, by rw [mem_take hjL, ← HZ.out]; rfl, HK3.out.drew⟩
                case measure => simp [intOf] <;> omega
            | false =>
              by_cases he : s3 = s2
              · by_cases hy : y3 = y
                · have HX3 : Hid (x = LL[j]) := Lib.hid (by
                    refine Prod.ext (HS2.out.trans (by rw [← he]; exact HS3.out.symm)) ?_
                    have := HY.out; have := HY3.out; omega)
                  subst he hy
                  go_wp2_with fail
                  go_region
                  all_goals
                    go_wp2_with fail
                    go_roundw
                    case rel => exact ⟨j + 1, true, by omega, by go_num, rfl, by rw [mem_take hjL]; simp [← HX3.out], HK3.out.drew⟩
                    case measure => simp [intOf] <;> omega
                · have HX3 : Hid (x ≠ LL[j]) := Lib.hid (fun e => hy (by have := HY.out; have := HY3.out; rw [← e] at this; omega))
                  have hne : (y3 == y) = false := by rw [beq_eq_false_iff_ne]; exact hy
                  subst he
                  clear hy
                  go_wp2_with fail
                  go_region
                  all_goals
                    go_wp2_with fail
                    go_roundw
                    case rel => exact ⟨j + 1, false, by omega, by go_num, rfl, by rw [mem_take hjL, ← HZ.out]; simp [HX3.out], HK3.out.drew⟩
                    case measure => simp [intOf] <;> omega
              · have HX3 : Hid (x ≠ LL[j]) := Lib.hid (fun e => he (by rw [e] at HS2; exact (name_eq.2 rfl).symm.trans (name_eq.2 (HS3.out.symm.trans HS2.out))))
                have hne : (s3.toList == s2.toList) = false := by
                  rw [beq_eq_false_iff_ne]
                  intro e
                  rw [ByteArray.toList_eq, ByteArray.toList_eq] at e
                  exact he ((name_eq.2 rfl).symm.trans (name_eq.2 e))
                clear he
                go_wp2_with fail
                go_region
                all_goals
                  go_wp2_with fail
                  go_roundw
                  case rel => exact ⟨j + 1, false, by omega, by go_num, rfl, by rw [mem_take hjL, ← HZ.out]; simp [HX3.out], HK3.out.drew⟩
                  case measure => simp [intOf] <;> omega
          · have hz1 : z = true := by
              rw [HZ.out, decide_eq_true_eq, List.take_of_length_le (by rw [HLEN.out]; omega), HP.out.mem_iff, List.mem_filter]
              exact ⟨by rw [HX.out]; exact List.getElem_mem hiE, H0.out⟩
            subst hz1
            go_wp2_with fail
            go_roundw
            case rel => exact ⟨i + 1, c + 1, by omega, by omega, by go_num, by go_num, by rw [take_filter hiE, ← HX.out, H0.out, HC.out]; simp, HK.out.trans HK3.out (fun _ h => h.elim)⟩
            case measure => simp [intOf] <;> omega
    · have hcn : c = nl := by
        rw [HC.out, List.take_of_length_le (by rw [← HN.out]; omega), ← HLEN.out, HP.out.length_eq]
      subst hcn
      go_wp2_with fail
      obtain ⟨wz, hwz⟩ : ∃ wz, wz = wr := ⟨wr, rfl⟩
      subst wr
      go_loopw [13] (fun iv wr => LdK wz c iv wr) (fun iv _ => c - (intOf iv).toNat)
      case atStart => exact ⟨1, by omega, by omega, rfl, Keep.refl _ _⟩
      case round =>
        obtain ⟨j, hj1, hj, rfl, hK3⟩ := hrel.ex
        have HK3 := Lib.hid hK3
        clear hrel hK3
        by_cases hlt2 : j < c
        · obtain ⟨q, hq⟩ : ∃ q, j = q + 1 := ⟨j - 1, by omega⟩
          have e1 : (j : Int) - 1 = (q : Int) := by omega
          have hqc : q < c := by omega
          have hjL : j < LL.length := by rw [HLEN.out]; exact hlt2
          have hqL : q < LL.length := by omega
          obtain ⟨g2, o2, _, hv2, -, -⟩ := HROW.out.full (by omega)
          simp only [Value.slice.injEq] at hv2
          obtain ⟨had, -, -⟩ := hv2
          subst had
          have K4 := HK.out.trans HK3.out (fun _ h => h.elim)
          have d0 := (K4.cell (HROW.out.lt (k := g2) rfl) (fun h => h) _).trans ((HROW.out.cellAt (j * 2) (by omega)).trans (ecells_get0 LL j hjL))
          have d1 := (K4.cell (HROW.out.lt (k := g2) rfl) (fun h => h) _).trans ((HROW.out.cellAt (q * 2) (by omega)).trans (ecells_get0 LL q hqL))
          obtain ⟨sx, hsx⟩ : ∃ s : ByteArray, s = ⟨LL[j].1.toArray⟩ := ⟨_, rfl⟩
          obtain ⟨sy, hsy⟩ : ∃ s : ByteArray, s = ⟨LL[q].1.toArray⟩ := ⟨_, rfl⟩
          rw [← hsx] at d0
          rw [← hsy] at d1
          have hcmp : Lib.compareBytes sy.data.toList sx.data.toList < 0 := by
            subst hq
            rw [← name_eq.1 hsx.symm, ← name_eq.1 hsy.symm]
            exact listed_lt HDI.out HP.out HRI.out hjL
          have hcmp2 : Op.bytesLess sx.toList sy.toList = false := by
            rw [bless_cmp, ByteArray.toList_eq, ByteArray.toList_eq, cmp_swap sy.data.toList sx.data.toList, decide_eq_false_iff_not]
            omega
          have hne : (sx.toList == sy.toList) = false := by
            rw [beq_eq_false_iff_ne]
            intro e
            rw [ByteArray.toList_eq, ByteArray.toList_eq] at e
            rw [e, cmp_self] at hcmp
            omega
          have HQ := Lib.hid hq
          clear hsx hsy hcmp K4 hq hqL
          go_wp2_with fail
          go_region
          all_goals
            go_wp2_with fail
            go_roundw
            case rel => exact ⟨j + 1, by omega, by omega, by go_num, HK3.out.drew⟩
            case measure => simp [intOf] <;> omega
        · go_wp2_with fail
          go_ret
          exact ⟨rfl, (K2.out.trans HK.out (fun _ h => h.elim)).trans HK3.out (fun _ h => h.elim)⟩

end Go.Proofs.Ytejeadccpigepaa.Dir
