/- World files: insertion in place; tables whose one list was sorted (made by tools/gendcl.py). -/
import Derived.Test.YtcodbomgodkcmaaGreatDoorDbG
import Derived.Deep.MidRow
namespace Go.Proofs.YtcodbomgodkcmaaGreatDoor.Wd
open Go.RowKit Go.Maps Go.Proofs.YtcodbomgodkcmaaGreatDoor Go.Proofs.YtcodbomgodkcmaaGreatDoor.Lin
set_option maxRecDepth 100000

section
variable {α : Type} {f : α → List Value} {s : Nat}
theorem splice_flat (hs : ∀ a, (f a).length = s) (A B : List α) (x y : α) : splice (flat f (A ++ x :: B)) (A.length * s) (f y) = flat f (A ++ y :: B) := by
  unfold splice
  rw [flat_append, flat_append, flat_cons, flat_cons]
  have e : (flat f A).length = A.length * s := flat_length hs A
  rw [← e, List.take_left' rfl, hs, List.drop_append, List.drop_of_length_le (by omega)]
  rw [show (flat f A).length + s - (flat f A).length = s by omega, List.nil_append, List.drop_append, hs, List.drop_of_length_le (l := f x) (by rw [hs]; omega)]
  simp
/-- One record stored over another. -/
theorem Rec.put {w : World} {t : TypeId} {g off n cap : Nat} {A B : List α} {x : α} (h : Rec w t f s (.slice (.some ⟨g, off, none⟩) n cap) (A ++ x :: B)) (hs : ∀ a, (f a).length = s) (y : α) :
    Rec (w.setCells g (off + A.length * s) (f y)) t f s (.slice (.some ⟨g, off, none⟩) n cap) (A ++ y :: B) := by
  have hn : n = (A ++ x :: B).length := by
    obtain ⟨_, _, hv, _⟩ := h.slice
    simp only [Value.slice.injEq] at hv; exact hv.2.1
  have hn2 : (A ++ y :: B).length = n := by rw [hn]; simp
  subst hn
  have h2 := h.row.setCells (A.length * s) (f y) (by
    rw [hs]
    have := Nat.mul_le_mul_right s (show A.length + 1 ≤ (A ++ x :: B).length by simp)
    rw [Nat.add_mul] at this
    omega)
  rw [splice_flat hs] at h2
  unfold Rec
  rw [hn2]
  exact h2
theorem Rec.there {w : World} {t : TypeId} {g off n cap : Nat} {L : List α} (h : Rec w t f s (.slice (.some ⟨g, off, none⟩) n cap) L) {i : Nat} (hi : i < L.length) : w.there g (off + i * s) s := fun j hj => by
  obtain ⟨_, _, hv, hc, _⟩ := h.slice
  simp only [Value.slice.injEq] at hv
  obtain ⟨_, rfl, rfl⟩ := hv
  have h1 := Nat.mul_le_mul_right s (show i + 1 ≤ cap by omega)
  rw [Nat.add_mul] at h1
  rw [Nat.add_assoc]
  exact h.row.there (i * s + j) (by omega)
theorem keep_cells {w : World} {g : Nat} : ∀ (vs : List Value) (o : Nat), Keep (fun b => b = g) w (w.setCells g o vs)
  | vs, o => by
    induction vs generalizing o w with
    | nil => exact Keep.refl _ w
    | cons v r ih => rw [World.setCells]; exact (keep_set (w := w) (b := g) (o := o) (v := v)).trans (ih _) (fun b hb => .inl hb)

/-- At place i of the outer loop: what is before it is sorted. -/
structure SoO (key : α → Int) (t : TypeId) (f : α → List Value) (s : Nat) (v : Value) (L : List α) (w0 : World) (iv : Value) (wr : World) : Prop where
  ex : ∃ A C, iv = .int .i64 ((A.length : Nat) : Int) ∧ (A ++ C).Perm L ∧ A.Pairwise (fun a b => key a ≤ key b) ∧ Rec wr t f s v (A ++ C) ∧ Keep (fun b => v.ownBlock = .some b) w0 wr
/-- At place k of the inner loop. -/
structure SoI (key : α → Int) (t : TypeId) (f : α → List Value) (s : Nat) (v : Value) (L : List α) (i : Nat) (w0 : World) (kv : Value) (wr : World) : Prop where
  ex : ∃ A x B C, kv = .int .i64 ((A.length : Nat) : Int) ∧ A.length + B.length = i ∧ (A ++ x :: (B ++ C)).Perm L ∧ (A ++ B).Pairwise (fun a b => key a ≤ key b) ∧ (∀ y ∈ B, key x ≤ key y) ∧ Rec wr t f s v (A ++ x :: (B ++ C)) ∧ Keep (fun b => v.ownBlock = .some b) w0 wr
theorem so_done {key : α → Int} {A B : List α} {x : α} (hs : (A ++ B).Pairwise (fun a b => key a ≤ key b)) (hB : ∀ y ∈ B, key x ≤ key y) (hA : A = [] ∨ ∃ A' y, A = A' ++ [y] ∧ key y ≤ key x) : (A ++ x :: B).Pairwise (fun a b => key a ≤ key b) := by
  rw [List.pairwise_append] at hs ⊢
  obtain ⟨h1, h2, h3⟩ := hs
  refine ⟨h1, List.pairwise_cons.2 ⟨hB, h2⟩, fun a ha b hb => ?_⟩
  rcases List.mem_cons.1 hb with rfl | hb
  · rcases hA with rfl | ⟨A', y, rfl, hy⟩
    · simp at ha
    · rcases List.mem_append.1 ha with ha | ha
      · exact Int.le_trans ((List.pairwise_append.1 h1).2.2 a ha y (by simp)) hy
      · rw [List.mem_singleton.1 ha]; exact hy
  · exact h3 a ha b hb
theorem so_step {key : α → Int} {A B : List α} {x y : α} (hs : ((A ++ [y]) ++ B).Pairwise (fun a b => key a ≤ key b)) (hB : ∀ z ∈ B, key x ≤ key z) (hy : key x < key y) : (A ++ y :: B).Pairwise (fun a b => key a ≤ key b) ∧ ∀ z ∈ y :: B, key x ≤ key z := by
  refine ⟨by simpa using hs, fun z hz => ?_⟩
  rcases List.mem_cons.1 hz with rfl | hz
  · exact Int.le_of_lt hy
  · exact hB z hz
theorem so_swap {A B L : List α} {x y : α} (h : ((A ++ [y]) ++ x :: B).Perm L) : (A ++ x :: (y :: B)).Perm L := by
  refine List.Perm.trans ?_ h
  rw [List.append_assoc]
  exact List.Perm.append_left _ (by simpa using List.Perm.swap y x B)
/-- The two neighbours are swapped. -/
theorem Rec.swap {w : World} {t : TypeId} {g off n cap : Nat} {A B : List α} {x y : α} (h : Rec w t f s (.slice (.some ⟨g, off, none⟩) n cap) ((A ++ [y]) ++ x :: B)) (hs : ∀ a, (f a).length = s) :
    Rec ((w.setCells g (off + A.length * s) (f x)).setCells g (off + (A.length + 1) * s) (f y)) t f s (.slice (.some ⟨g, off, none⟩) n cap) (A ++ x :: (y :: B)) := by
  have h1 : Rec w t f s (.slice (.some ⟨g, off, none⟩) n cap) (A ++ y :: (x :: B)) := by simpa using h
  have h2 := h1.put hs x
  have h3 : Rec (w.setCells g (off + A.length * s) (f x)) t f s (.slice (.some ⟨g, off, none⟩) n cap) ((A ++ [x]) ++ x :: B) := by simpa using h2
  have h4 := h3.put hs y
  simpa using h4
theorem last_of {A : List α} (h : 0 < A.length) : ∃ A' y, A = A' ++ [y] := by
  rcases List.eq_nil_or_concat A with rfl | ⟨A', y, rfl⟩
  · simp at h
  · exact ⟨A', y, by simp⟩
theorem mid_get {A B : List α} {x : α} : (A ++ x :: B)[A.length]? = .some x := by simp
end

/-- Rows of numbers lie on where a block of another type is turned. -/
theorem row_tyV {w w2 : World} {F : Nat → Prop} {T : Nat} (hF : ∀ b, F b → ∃ cs f, w.heap[b]? = some (.cells cs T f)) (k : Keep F w w2) {T2 s n : Nat} {u : Value} {xs : List Value} (hT : T2 ≠ T) (hrow : Row w T2 s u n xs) : Row w2 T2 s u n xs :=
  hrow.keep k (fun b hb hf => by
    obtain ⟨cs, f, e⟩ := hF b hf
    obtain ⟨cs1, f1, e1⟩ := hrow.type hb
    exact ty_ne e1 e hT rfl)
theorem ints_tyV {w w2 : World} {F : Nat → Prop} {T : Nat} (hF : ∀ b, F b → ∃ cs f, w.heap[b]? = some (.cells cs T f)) (k : Keep F w w2) {u : Value} {l : List Int} (hT : 3 ≠ T) (h : Ints w u l) : Ints w2 u l :=
  h.keep k (fun b hb _ hf => by
    obtain ⟨cs, f, e⟩ := hF b hf
    obtain ⟨cs1, f1, e1⟩ := h.2 b hb
    exact ty_ne e1 e hT rfl)

theorem DbV.sort1 {B : Nat → Prop} {w w2 : World} {d : Nat} {D : DbM} {v1 v2 v3 v4 v5 v6 : Value} {rr : List (RecM × Value)} {ss : List (ShopM × Value)} {M : List (RoomM)} (h : DbV B w d D v1 v2 v3 v4 v5 v6 rr ss) (hr : Rec w2 53 roomC 10 v1 M) (k : Keep (fun b => v1.ownBlock = some b) w w2) : DbV B w2 d { D with rooms := M } v1 v2 v3 v4 v5 v6 rr ss := by
  have hF : ∀ b, v1.ownBlock = some b → ∃ cs f, w.heap[b]? = some (.cells cs 53 f) := fun b hb => h.l1.type hb
  exact ⟨(k.block d (lt_of_block h.blk) (fun hf => by obtain ⟨cs, f, e⟩ := hF d hf; exact ty_ne h.blk e (by decide) rfl)).trans h.blk, ⟨h.base.1, fun b hb => h.base.2 b (Nat.le_trans k.size hb)⟩, hr, row_tyV hF k (by decide) h.l2, row_tyV hF k (by decide) h.l3, row_tyV hF k (by decide) h.l4, row_tyV hF k (by decide) h.l5, row_tyV hF k (by decide) h.l6, h.fr, h.fs, fun x hx => ints_tyV hF k (by decide) (h.ir x hx), fun x hx => ints_tyV hF k (by decide) (h.is x hx), h.o1, h.o2, h.o3, h.o4, h.o5, h.o6, fun x hx => h.qr x hx, fun x hx => h.qs x hx⟩

theorem DbV.sort2 {B : Nat → Prop} {w w2 : World} {d : Nat} {D : DbM} {v1 v2 v3 v4 v5 v6 : Value} {rr : List (RecM × Value)} {ss : List (ShopM × Value)} {M : List (ProtoM)} (h : DbV B w d D v1 v2 v3 v4 v5 v6 rr ss) (hr : Rec w2 78 protoC 5 v2 M) (k : Keep (fun b => v2.ownBlock = some b) w w2) : DbV B w2 d { D with protos := M } v1 v2 v3 v4 v5 v6 rr ss := by
  have hF : ∀ b, v2.ownBlock = some b → ∃ cs f, w.heap[b]? = some (.cells cs 78 f) := fun b hb => h.l2.type hb
  exact ⟨(k.block d (lt_of_block h.blk) (fun hf => by obtain ⟨cs, f, e⟩ := hF d hf; exact ty_ne h.blk e (by decide) rfl)).trans h.blk, ⟨h.base.1, fun b hb => h.base.2 b (Nat.le_trans k.size hb)⟩, row_tyV hF k (by decide) h.l1, hr, row_tyV hF k (by decide) h.l3, row_tyV hF k (by decide) h.l4, row_tyV hF k (by decide) h.l5, row_tyV hF k (by decide) h.l6, h.fr, h.fs, fun x hx => ints_tyV hF k (by decide) (h.ir x hx), fun x hx => ints_tyV hF k (by decide) (h.is x hx), h.o1, h.o2, h.o3, h.o4, h.o5, h.o6, fun x hx => h.qr x hx, fun x hx => h.qs x hx⟩

theorem DbV.sort3 {B : Nat → Prop} {w w2 : World} {d : Nat} {D : DbM} {v1 v2 v3 v4 v5 v6 : Value} {rr : List (RecM × Value)} {ss : List (ShopM × Value)} {M : List (MobPM)} (h : DbV B w d D v1 v2 v3 v4 v5 v6 rr ss) (hr : Rec w2 80 mobpC 7 v3 M) (k : Keep (fun b => v3.ownBlock = some b) w w2) : DbV B w2 d { D with mobs := M } v1 v2 v3 v4 v5 v6 rr ss := by
  have hF : ∀ b, v3.ownBlock = some b → ∃ cs f, w.heap[b]? = some (.cells cs 80 f) := fun b hb => h.l3.type hb
  exact ⟨(k.block d (lt_of_block h.blk) (fun hf => by obtain ⟨cs, f, e⟩ := hF d hf; exact ty_ne h.blk e (by decide) rfl)).trans h.blk, ⟨h.base.1, fun b hb => h.base.2 b (Nat.le_trans k.size hb)⟩, row_tyV hF k (by decide) h.l1, row_tyV hF k (by decide) h.l2, hr, row_tyV hF k (by decide) h.l4, row_tyV hF k (by decide) h.l5, row_tyV hF k (by decide) h.l6, h.fr, h.fs, fun x hx => ints_tyV hF k (by decide) (h.ir x hx), fun x hx => ints_tyV hF k (by decide) (h.is x hx), h.o1, h.o2, h.o3, h.o4, h.o5, h.o6, fun x hx => h.qr x hx, fun x hx => h.qs x hx⟩

theorem DbV.sort4 {B : Nat → Prop} {w w2 : World} {d : Nat} {D : DbM} {v1 v2 v3 v4 v5 v6 : Value} {rr : List (RecM × Value)} {ss : List (ShopM × Value)} {M : List (RecM × Value)} (h : DbV B w d D v1 v2 v3 v4 v5 v6 rr ss) (hr : Rec w2 83 recC 2 v4 M) (hp : M.Perm rr) (k : Keep (fun b => v4.ownBlock = some b) w w2) : DbV B w2 d { D with recs := M.map Prod.fst } v1 v2 v3 v4 v5 v6 M ss := by
  have hF : ∀ b, v4.ownBlock = some b → ∃ cs f, w.heap[b]? = some (.cells cs 83 f) := fun b hb => h.l4.type hb
  exact ⟨(k.block d (lt_of_block h.blk) (fun hf => by obtain ⟨cs, f, e⟩ := hF d hf; exact ty_ne h.blk e (by decide) rfl)).trans h.blk, ⟨h.base.1, fun b hb => h.base.2 b (Nat.le_trans k.size hb)⟩, row_tyV hF k (by decide) h.l1, row_tyV hF k (by decide) h.l2, row_tyV hF k (by decide) h.l3, hr, row_tyV hF k (by decide) h.l5, row_tyV hF k (by decide) h.l6, rfl, h.fs, fun x hx => ints_tyV hF k (by decide) (h.ir x (hp.mem_iff.1 hx)), fun x hx => ints_tyV hF k (by decide) (h.is x hx), h.o1, h.o2, h.o3, h.o4, h.o5, h.o6, fun x hx => h.qr x (hp.mem_iff.1 hx), fun x hx => h.qs x hx⟩

theorem DbV.sort5 {B : Nat → Prop} {w w2 : World} {d : Nat} {D : DbM} {v1 v2 v3 v4 v5 v6 : Value} {rr : List (RecM × Value)} {ss : List (ShopM × Value)} {M : List (QuestM)} (h : DbV B w d D v1 v2 v3 v4 v5 v6 rr ss) (hr : Rec w2 86 questC 5 v5 M) (k : Keep (fun b => v5.ownBlock = some b) w w2) : DbV B w2 d { D with quests := M } v1 v2 v3 v4 v5 v6 rr ss := by
  have hF : ∀ b, v5.ownBlock = some b → ∃ cs f, w.heap[b]? = some (.cells cs 86 f) := fun b hb => h.l5.type hb
  exact ⟨(k.block d (lt_of_block h.blk) (fun hf => by obtain ⟨cs, f, e⟩ := hF d hf; exact ty_ne h.blk e (by decide) rfl)).trans h.blk, ⟨h.base.1, fun b hb => h.base.2 b (Nat.le_trans k.size hb)⟩, row_tyV hF k (by decide) h.l1, row_tyV hF k (by decide) h.l2, row_tyV hF k (by decide) h.l3, row_tyV hF k (by decide) h.l4, hr, row_tyV hF k (by decide) h.l6, h.fr, h.fs, fun x hx => ints_tyV hF k (by decide) (h.ir x hx), fun x hx => ints_tyV hF k (by decide) (h.is x hx), h.o1, h.o2, h.o3, h.o4, h.o5, h.o6, fun x hx => h.qr x hx, fun x hx => h.qs x hx⟩

theorem DbV.sort6 {B : Nat → Prop} {w w2 : World} {d : Nat} {D : DbM} {v1 v2 v3 v4 v5 v6 : Value} {rr : List (RecM × Value)} {ss : List (ShopM × Value)} {M : List (ShopM × Value)} (h : DbV B w d D v1 v2 v3 v4 v5 v6 rr ss) (hr : Rec w2 88 shopC 3 v6 M) (hp : M.Perm ss) (k : Keep (fun b => v6.ownBlock = some b) w w2) : DbV B w2 d { D with shops := M.map Prod.fst } v1 v2 v3 v4 v5 v6 rr M := by
  have hF : ∀ b, v6.ownBlock = some b → ∃ cs f, w.heap[b]? = some (.cells cs 88 f) := fun b hb => h.l6.type hb
  exact ⟨(k.block d (lt_of_block h.blk) (fun hf => by obtain ⟨cs, f, e⟩ := hF d hf; exact ty_ne h.blk e (by decide) rfl)).trans h.blk, ⟨h.base.1, fun b hb => h.base.2 b (Nat.le_trans k.size hb)⟩, row_tyV hF k (by decide) h.l1, row_tyV hF k (by decide) h.l2, row_tyV hF k (by decide) h.l3, row_tyV hF k (by decide) h.l4, row_tyV hF k (by decide) h.l5, hr, h.fr, rfl, fun x hx => ints_tyV hF k (by decide) (h.ir x hx), fun x hx => ints_tyV hF k (by decide) (h.is x (hp.mem_iff.1 hx)), h.o1, h.o2, h.o3, h.o4, h.o5, h.o6, fun x hx => h.qr x hx, fun x hx => h.qs x (hp.mem_iff.1 hx)⟩
end Go.Proofs.YtcodbomgodkcmaaGreatDoor.Wd
