/- World files: tables that grow, and one record more (made by tools/gendg.py). -/
import Derived.Test.YtheaghgockafmaaGreatDbA
import Derived.Lib.SmallJoins
namespace Go.Proofs.YtheaghgockafmaaGreat.Wd
open Go.RowKit Go.Maps Go.Proofs.YtheaghgockafmaaGreat Go.Proofs.YtheaghgockafmaaGreat.Lin
set_option maxRecDepth 100000

theorem ty_ne {w : World} {b c t1 t2 : Nat} {cs1 cs2 : Array Value} {f1 f2 : Nat × Nat} (h1 : w.heap[b]? = some (.cells cs1 t1 f1)) (h2 : w.heap[c]? = some (.cells cs2 t2 f2)) (ht : t1 ≠ t2) : b ≠ c := by
  rintro rfl
  rw [h1] at h2
  simp only [Option.some.injEq, Obj.cells.injEq] at h2
  exact ht h2.2.1

/-- Tables in blocks of their own, from B on; the lists' slices and the records with lists. -/
structure DbV (B : Nat → Prop) (w : World) (d : Nat) (D : DbM) (v1 v2 v3 v4 v5 v6 : Value) (rr : List (RecM × Value)) (ss : List (ShopM × Value)) : Prop where
  blk : w.heap[d]? = some (.cells #[v1, v2, v3, v4, v5, v6] 96 (0, 0))
  base : B d ∧ ∀ b, w.heap.size ≤ b → B b
  l1 : Rec w 127 roomC 10 v1 D.rooms
  l2 : Rec w 133 protoC 5 v2 D.protos
  l3 : Rec w 105 mobpC 7 v3 D.mobs
  l4 : Rec w 135 recC 2 v4 rr
  l5 : Rec w 137 questC 5 v5 D.quests
  l6 : Rec w 107 shopC 3 v6 ss
  fr : rr.map Prod.fst = D.recs
  fs : ss.map Prod.fst = D.shops
  ir : ∀ x ∈ rr, Ints w x.2 x.1.needs
  is : ∀ x ∈ ss, Ints w x.2 x.1.items
  o1 : ∀ b, v1.ownBlock = some b → B b
  o2 : ∀ b, v2.ownBlock = some b → B b
  o3 : ∀ b, v3.ownBlock = some b → B b
  o4 : ∀ b, v4.ownBlock = some b → B b
  o5 : ∀ b, v5.ownBlock = some b → B b
  o6 : ∀ b, v6.ownBlock = some b → B b
  qr : ∀ x ∈ rr, ∀ b, x.2.ownBlock = some b → B b
  qs : ∀ x ∈ ss, ∀ b, x.2.ownBlock = some b → B b

theorem DbV.at {B : Nat → Prop} {w : World} {d : Nat} {D : DbM} {v1 v2 v3 v4 v5 v6 : Value} {rr : List (RecM × Value)} {ss : List (ShopM × Value)} (h : DbV B w d D v1 v2 v3 v4 v5 v6 rr ss) : DbAt (fun b => B b) w d 0 D := by
  refine ⟨v1, v2, v3, v4, v5, v6, rr, ss, lt_of_block h.blk, fun j u hj => ?_, h.l1, h.l2, h.l3, ⟨h.l4, h.fr, h.ir⟩, h.l5, ⟨h.l6, h.fs, h.is⟩, h.base.1, ?_, h.qr, h.qs⟩
  · rw [Nat.zero_add, cell_of_row w d j _ _ _ h.blk]
    have : (#[v1, v2, v3, v4, v5, v6] : Array Value).toList[j]? = some u := hj
    simpa using this
  · intro v hv b hb
    simp only [List.mem_cons, List.not_mem_nil, or_false] at hv
    rcases hv with rfl | rfl | rfl | rfl | rfl | rfl
    · exact h.o1 b hb
    · exact h.o2 b hb
    · exact h.o3 b hb
    · exact h.o4 b hb
    · exact h.o5 b hb
    · exact h.o6 b hb

/-- What turns no block of theirs leaves them. -/
theorem DbV.keep {B : Nat → Prop} {w w' : World} {d : Nat} {D : DbM} {v1 v2 v3 v4 v5 v6 : Value} {rr : List (RecM × Value)} {ss : List (ShopM × Value)} {F : Nat → Prop} (h : DbV B w d D v1 v2 v3 v4 v5 v6 rr ss) (k : Keep F w w') (hF : ∀ b, B b → b < w.heap.size → ¬ F b) : DbV B w' d D v1 v2 v3 v4 v5 v6 rr ss := by
  have kk : Keep (fun b => F b ∧ b < w.heap.size) w w' := ⟨k.os, k.tape, k.output, k.size, fun i hi hn => k.block i hi (fun hf => hn ⟨hf, hi⟩)⟩
  have hn : ∀ b, B b → ¬ (F b ∧ b < w.heap.size) := fun b hb hh => hF b hb hh.2 hh.1
  exact ⟨(k.block d (lt_of_block h.blk) (hF d h.base.1 (lt_of_block h.blk))).trans h.blk, ⟨h.base.1, fun b hb => h.base.2 b (Nat.le_trans k.size hb)⟩,
    h.l1.keep kk (fun b hb => hn b (h.o1 b hb)), h.l2.keep kk (fun b hb => hn b (h.o2 b hb)), h.l3.keep kk (fun b hb => hn b (h.o3 b hb)), h.l4.keep kk (fun b hb => hn b (h.o4 b hb)), h.l5.keep kk (fun b hb => hn b (h.o5 b hb)), h.l6.keep kk (fun b hb => hn b (h.o6 b hb)),
    h.fr, h.fs, fun x hx => (h.ir x hx).keep kk (fun b hb _ => hn b (h.qr x hx b hb)), fun x hx => (h.is x hx).keep kk (fun b hb _ => hn b (h.qs x hx b hb)), h.o1, h.o2, h.o3, h.o4, h.o5, h.o6, h.qr, h.qs⟩

theorem keep_set {w : World} {b : Nat} {o : Nat} {v : Value} : Keep (fun i => i = b) w (w.setCell ⟨b, o, none⟩ v) := Keep.setCell (Keep.refl _ w) _ _ (.inl rfl)

theorem DbV.put1 {B : Nat → Prop} {w w2 : World} {d : Nat} {D : DbM} {v1 v2 v3 v4 v5 v6 v' : Value} {rr : List (RecM × Value)} {ss : List (ShopM × Value)} {x : RoomM} (h : DbV B w d D v1 v2 v3 v4 v5 v6 rr ss) (hr : Rec w2 127 roomC 10 v' (D.rooms ++ [x])) (k : Keep (fun b => v1.ownBlock = some b) w w2) (ho : ∀ b, v'.ownBlock = some b → v1.ownBlock = some b ∨ w.heap.size ≤ b) :
    DbV B (w2.setCell ⟨d, 0, none⟩ v') d (push D (.room x)) v' v2 v3 v4 v5 v6 rr ss := by
  have hds := lt_of_block h.blk
  have nd : ¬ v1.ownBlock = some d := fun e => by obtain ⟨cs, f, hb⟩ := h.l1.type e; exact ty_ne h.blk hb (by decide) rfl
  have bd : w2.heap[d]? = some (.cells #[v1, v2, v3, v4, v5, v6] 96 (0, 0)) := (k.block d hds nd).trans h.blk
  have ks : Keep (fun b => v1.ownBlock = some b ∨ b = d) w (w2.setCell ⟨d, 0, none⟩ v') := (k.mono (fun b _ hb => .inl hb)).trans keep_set (fun b hb => .inl (.inr hb))
  have nrow : ∀ {T s n : Nat} {v : Value} {xs : List Value}, Row w T s v n xs → T ≠ 127 → T ≠ 96 → ∀ b, v.ownBlock = some b → ¬ (v1.ownBlock = some b ∨ b = d) := fun hw h1 h2 b hb hh => by
    obtain ⟨cs, f, e⟩ := hw.type hb
    rcases hh with hh | hh
    · obtain ⟨cs', f', e'⟩ := h.l1.type hh; exact ty_ne e e' h1 rfl
    · subst hh; exact ty_ne e h.blk h2 rfl
  have nint : ∀ {v : Value} {l : List Int}, Ints w v l → ∀ b, v.ownBlock = some b → b < w.heap.size → ¬ (v1.ownBlock = some b ∨ b = d) := fun hw b hb _ hh => by
    obtain ⟨cs, f, e⟩ := hw.2 b hb
    rcases hh with hh | hh
    · obtain ⟨cs', f', e'⟩ := h.l1.type hh; exact ty_ne e e' (by decide) rfl
    · subst hh; exact ty_ne e h.blk (by decide) rfl
  have hnew : Rec (w2.setCell ⟨d, 0, none⟩ v') 127 roomC 10 v' (D.rooms ++ [x]) := hr.keep keep_set (fun b hb e => by
    subst e
    obtain ⟨cs, f, hh⟩ := hr.type hb
    exact ty_ne bd hh (by decide) rfl)
  exact ⟨by rw [(Joins.block_setCell bd v')]; rfl, ⟨h.base.1, fun b hb => h.base.2 b (Nat.le_trans k.size (Nat.le_trans (keep_set (w := w2) (b := d)).size hb))⟩,
    hnew, h.l2.keep ks (nrow h.l2 (by decide) (by decide)), h.l3.keep ks (nrow h.l3 (by decide) (by decide)), h.l4.keep ks (nrow h.l4 (by decide) (by decide)), h.l5.keep ks (nrow h.l5 (by decide) (by decide)), h.l6.keep ks (nrow h.l6 (by decide) (by decide)),
    h.fr, h.fs,
    fun y hy => (h.ir y hy).keep ks (nint (h.ir y hy)),
    fun y hy => (h.is y hy).keep ks (nint (h.is y hy)),
    fun b hb => by rcases ho b hb with e | e; exact h.o1 b e; exact h.base.2 b e, h.o2, h.o3, h.o4, h.o5, h.o6,
    h.qr, h.qs⟩

theorem DbV.put2 {B : Nat → Prop} {w w2 : World} {d : Nat} {D : DbM} {v1 v2 v3 v4 v5 v6 v' : Value} {rr : List (RecM × Value)} {ss : List (ShopM × Value)} {x : ProtoM} (h : DbV B w d D v1 v2 v3 v4 v5 v6 rr ss) (hr : Rec w2 133 protoC 5 v' (D.protos ++ [x])) (k : Keep (fun b => v2.ownBlock = some b) w w2) (ho : ∀ b, v'.ownBlock = some b → v2.ownBlock = some b ∨ w.heap.size ≤ b) :
    DbV B (w2.setCell ⟨d, 1, none⟩ v') d (push D (.proto x)) v1 v' v3 v4 v5 v6 rr ss := by
  have hds := lt_of_block h.blk
  have nd : ¬ v2.ownBlock = some d := fun e => by obtain ⟨cs, f, hb⟩ := h.l2.type e; exact ty_ne h.blk hb (by decide) rfl
  have bd : w2.heap[d]? = some (.cells #[v1, v2, v3, v4, v5, v6] 96 (0, 0)) := (k.block d hds nd).trans h.blk
  have ks : Keep (fun b => v2.ownBlock = some b ∨ b = d) w (w2.setCell ⟨d, 1, none⟩ v') := (k.mono (fun b _ hb => .inl hb)).trans keep_set (fun b hb => .inl (.inr hb))
  have nrow : ∀ {T s n : Nat} {v : Value} {xs : List Value}, Row w T s v n xs → T ≠ 133 → T ≠ 96 → ∀ b, v.ownBlock = some b → ¬ (v2.ownBlock = some b ∨ b = d) := fun hw h1 h2 b hb hh => by
    obtain ⟨cs, f, e⟩ := hw.type hb
    rcases hh with hh | hh
    · obtain ⟨cs', f', e'⟩ := h.l2.type hh; exact ty_ne e e' h1 rfl
    · subst hh; exact ty_ne e h.blk h2 rfl
  have nint : ∀ {v : Value} {l : List Int}, Ints w v l → ∀ b, v.ownBlock = some b → b < w.heap.size → ¬ (v2.ownBlock = some b ∨ b = d) := fun hw b hb _ hh => by
    obtain ⟨cs, f, e⟩ := hw.2 b hb
    rcases hh with hh | hh
    · obtain ⟨cs', f', e'⟩ := h.l2.type hh; exact ty_ne e e' (by decide) rfl
    · subst hh; exact ty_ne e h.blk (by decide) rfl
  have hnew : Rec (w2.setCell ⟨d, 1, none⟩ v') 133 protoC 5 v' (D.protos ++ [x]) := hr.keep keep_set (fun b hb e => by
    subst e
    obtain ⟨cs, f, hh⟩ := hr.type hb
    exact ty_ne bd hh (by decide) rfl)
  exact ⟨by rw [(Joins.block_setCell bd v')]; rfl, ⟨h.base.1, fun b hb => h.base.2 b (Nat.le_trans k.size (Nat.le_trans (keep_set (w := w2) (b := d)).size hb))⟩,
    h.l1.keep ks (nrow h.l1 (by decide) (by decide)), hnew, h.l3.keep ks (nrow h.l3 (by decide) (by decide)), h.l4.keep ks (nrow h.l4 (by decide) (by decide)), h.l5.keep ks (nrow h.l5 (by decide) (by decide)), h.l6.keep ks (nrow h.l6 (by decide) (by decide)),
    h.fr, h.fs,
    fun y hy => (h.ir y hy).keep ks (nint (h.ir y hy)),
    fun y hy => (h.is y hy).keep ks (nint (h.is y hy)),
    h.o1, fun b hb => by rcases ho b hb with e | e; exact h.o2 b e; exact h.base.2 b e, h.o3, h.o4, h.o5, h.o6,
    h.qr, h.qs⟩

theorem DbV.put3 {B : Nat → Prop} {w w2 : World} {d : Nat} {D : DbM} {v1 v2 v3 v4 v5 v6 v' : Value} {rr : List (RecM × Value)} {ss : List (ShopM × Value)} {x : MobPM} (h : DbV B w d D v1 v2 v3 v4 v5 v6 rr ss) (hr : Rec w2 105 mobpC 7 v' (D.mobs ++ [x])) (k : Keep (fun b => v3.ownBlock = some b) w w2) (ho : ∀ b, v'.ownBlock = some b → v3.ownBlock = some b ∨ w.heap.size ≤ b) :
    DbV B (w2.setCell ⟨d, 2, none⟩ v') d (push D (.mob x)) v1 v2 v' v4 v5 v6 rr ss := by
  have hds := lt_of_block h.blk
  have nd : ¬ v3.ownBlock = some d := fun e => by obtain ⟨cs, f, hb⟩ := h.l3.type e; exact ty_ne h.blk hb (by decide) rfl
  have bd : w2.heap[d]? = some (.cells #[v1, v2, v3, v4, v5, v6] 96 (0, 0)) := (k.block d hds nd).trans h.blk
  have ks : Keep (fun b => v3.ownBlock = some b ∨ b = d) w (w2.setCell ⟨d, 2, none⟩ v') := (k.mono (fun b _ hb => .inl hb)).trans keep_set (fun b hb => .inl (.inr hb))
  have nrow : ∀ {T s n : Nat} {v : Value} {xs : List Value}, Row w T s v n xs → T ≠ 105 → T ≠ 96 → ∀ b, v.ownBlock = some b → ¬ (v3.ownBlock = some b ∨ b = d) := fun hw h1 h2 b hb hh => by
    obtain ⟨cs, f, e⟩ := hw.type hb
    rcases hh with hh | hh
    · obtain ⟨cs', f', e'⟩ := h.l3.type hh; exact ty_ne e e' h1 rfl
    · subst hh; exact ty_ne e h.blk h2 rfl
  have nint : ∀ {v : Value} {l : List Int}, Ints w v l → ∀ b, v.ownBlock = some b → b < w.heap.size → ¬ (v3.ownBlock = some b ∨ b = d) := fun hw b hb _ hh => by
    obtain ⟨cs, f, e⟩ := hw.2 b hb
    rcases hh with hh | hh
    · obtain ⟨cs', f', e'⟩ := h.l3.type hh; exact ty_ne e e' (by decide) rfl
    · subst hh; exact ty_ne e h.blk (by decide) rfl
  have hnew : Rec (w2.setCell ⟨d, 2, none⟩ v') 105 mobpC 7 v' (D.mobs ++ [x]) := hr.keep keep_set (fun b hb e => by
    subst e
    obtain ⟨cs, f, hh⟩ := hr.type hb
    exact ty_ne bd hh (by decide) rfl)
  exact ⟨by rw [(Joins.block_setCell bd v')]; rfl, ⟨h.base.1, fun b hb => h.base.2 b (Nat.le_trans k.size (Nat.le_trans (keep_set (w := w2) (b := d)).size hb))⟩,
    h.l1.keep ks (nrow h.l1 (by decide) (by decide)), h.l2.keep ks (nrow h.l2 (by decide) (by decide)), hnew, h.l4.keep ks (nrow h.l4 (by decide) (by decide)), h.l5.keep ks (nrow h.l5 (by decide) (by decide)), h.l6.keep ks (nrow h.l6 (by decide) (by decide)),
    h.fr, h.fs,
    fun y hy => (h.ir y hy).keep ks (nint (h.ir y hy)),
    fun y hy => (h.is y hy).keep ks (nint (h.is y hy)),
    h.o1, h.o2, fun b hb => by rcases ho b hb with e | e; exact h.o3 b e; exact h.base.2 b e, h.o4, h.o5, h.o6,
    h.qr, h.qs⟩

theorem DbV.put4 {B : Nat → Prop} {w w2 : World} {d : Nat} {D : DbM} {v1 v2 v3 v4 v5 v6 v' : Value} {rr : List (RecM × Value)} {ss : List (ShopM × Value)} {x : RecM} {u : Value} (h : DbV B w d D v1 v2 v3 v4 v5 v6 rr ss) (hr : Rec w2 135 recC 2 v' (rr ++ [(x, u)])) (k : Keep (fun b => v4.ownBlock = some b) w w2) (ho : ∀ b, v'.ownBlock = some b → v4.ownBlock = some b ∨ w.heap.size ≤ b) (hu : Ints w u x.needs) (hq : ∀ b, u.ownBlock = some b → B b) :
    DbV B (w2.setCell ⟨d, 3, none⟩ v') d (push D (.recipe x)) v1 v2 v3 v' v5 v6 (rr ++ [(x, u)]) ss := by
  have hds := lt_of_block h.blk
  have nd : ¬ v4.ownBlock = some d := fun e => by obtain ⟨cs, f, hb⟩ := h.l4.type e; exact ty_ne h.blk hb (by decide) rfl
  have bd : w2.heap[d]? = some (.cells #[v1, v2, v3, v4, v5, v6] 96 (0, 0)) := (k.block d hds nd).trans h.blk
  have ks : Keep (fun b => v4.ownBlock = some b ∨ b = d) w (w2.setCell ⟨d, 3, none⟩ v') := (k.mono (fun b _ hb => .inl hb)).trans keep_set (fun b hb => .inl (.inr hb))
  have nrow : ∀ {T s n : Nat} {v : Value} {xs : List Value}, Row w T s v n xs → T ≠ 135 → T ≠ 96 → ∀ b, v.ownBlock = some b → ¬ (v4.ownBlock = some b ∨ b = d) := fun hw h1 h2 b hb hh => by
    obtain ⟨cs, f, e⟩ := hw.type hb
    rcases hh with hh | hh
    · obtain ⟨cs', f', e'⟩ := h.l4.type hh; exact ty_ne e e' h1 rfl
    · subst hh; exact ty_ne e h.blk h2 rfl
  have nint : ∀ {v : Value} {l : List Int}, Ints w v l → ∀ b, v.ownBlock = some b → b < w.heap.size → ¬ (v4.ownBlock = some b ∨ b = d) := fun hw b hb _ hh => by
    obtain ⟨cs, f, e⟩ := hw.2 b hb
    rcases hh with hh | hh
    · obtain ⟨cs', f', e'⟩ := h.l4.type hh; exact ty_ne e e' (by decide) rfl
    · subst hh; exact ty_ne e h.blk (by decide) rfl
  have hnew : Rec (w2.setCell ⟨d, 3, none⟩ v') 135 recC 2 v' (rr ++ [(x, u)]) := hr.keep keep_set (fun b hb e => by
    subst e
    obtain ⟨cs, f, hh⟩ := hr.type hb
    exact ty_ne bd hh (by decide) rfl)
  exact ⟨by rw [(Joins.block_setCell bd v')]; rfl, ⟨h.base.1, fun b hb => h.base.2 b (Nat.le_trans k.size (Nat.le_trans (keep_set (w := w2) (b := d)).size hb))⟩,
    h.l1.keep ks (nrow h.l1 (by decide) (by decide)), h.l2.keep ks (nrow h.l2 (by decide) (by decide)), h.l3.keep ks (nrow h.l3 (by decide) (by decide)), hnew, h.l5.keep ks (nrow h.l5 (by decide) (by decide)), h.l6.keep ks (nrow h.l6 (by decide) (by decide)),
    by rw [List.map_append, h.fr]; rfl, h.fs,
    fun y hy => by
      rcases List.mem_append.1 hy with hy | hy
      · exact (h.ir y hy).keep ks (nint (h.ir y hy))
      · obtain rfl : y = (x, u) := by simpa using hy
        exact hu.keep ks (nint hu),
    fun y hy => (h.is y hy).keep ks (nint (h.is y hy)),
    h.o1, h.o2, h.o3, fun b hb => by rcases ho b hb with e | e; exact h.o4 b e; exact h.base.2 b e, h.o5, h.o6,
    fun y hy => by
      rcases List.mem_append.1 hy with hy | hy
      · exact h.qr y hy
      · obtain rfl : y = (x, u) := by simpa using hy
        exact hq, h.qs⟩

theorem DbV.put5 {B : Nat → Prop} {w w2 : World} {d : Nat} {D : DbM} {v1 v2 v3 v4 v5 v6 v' : Value} {rr : List (RecM × Value)} {ss : List (ShopM × Value)} {x : QuestM} (h : DbV B w d D v1 v2 v3 v4 v5 v6 rr ss) (hr : Rec w2 137 questC 5 v' (D.quests ++ [x])) (k : Keep (fun b => v5.ownBlock = some b) w w2) (ho : ∀ b, v'.ownBlock = some b → v5.ownBlock = some b ∨ w.heap.size ≤ b) :
    DbV B (w2.setCell ⟨d, 4, none⟩ v') d (push D (.quest x)) v1 v2 v3 v4 v' v6 rr ss := by
  have hds := lt_of_block h.blk
  have nd : ¬ v5.ownBlock = some d := fun e => by obtain ⟨cs, f, hb⟩ := h.l5.type e; exact ty_ne h.blk hb (by decide) rfl
  have bd : w2.heap[d]? = some (.cells #[v1, v2, v3, v4, v5, v6] 96 (0, 0)) := (k.block d hds nd).trans h.blk
  have ks : Keep (fun b => v5.ownBlock = some b ∨ b = d) w (w2.setCell ⟨d, 4, none⟩ v') := (k.mono (fun b _ hb => .inl hb)).trans keep_set (fun b hb => .inl (.inr hb))
  have nrow : ∀ {T s n : Nat} {v : Value} {xs : List Value}, Row w T s v n xs → T ≠ 137 → T ≠ 96 → ∀ b, v.ownBlock = some b → ¬ (v5.ownBlock = some b ∨ b = d) := fun hw h1 h2 b hb hh => by
    obtain ⟨cs, f, e⟩ := hw.type hb
    rcases hh with hh | hh
    · obtain ⟨cs', f', e'⟩ := h.l5.type hh; exact ty_ne e e' h1 rfl
    · subst hh; exact ty_ne e h.blk h2 rfl
  have nint : ∀ {v : Value} {l : List Int}, Ints w v l → ∀ b, v.ownBlock = some b → b < w.heap.size → ¬ (v5.ownBlock = some b ∨ b = d) := fun hw b hb _ hh => by
    obtain ⟨cs, f, e⟩ := hw.2 b hb
    rcases hh with hh | hh
    · obtain ⟨cs', f', e'⟩ := h.l5.type hh; exact ty_ne e e' (by decide) rfl
    · subst hh; exact ty_ne e h.blk (by decide) rfl
  have hnew : Rec (w2.setCell ⟨d, 4, none⟩ v') 137 questC 5 v' (D.quests ++ [x]) := hr.keep keep_set (fun b hb e => by
    subst e
    obtain ⟨cs, f, hh⟩ := hr.type hb
    exact ty_ne bd hh (by decide) rfl)
  exact ⟨by rw [(Joins.block_setCell bd v')]; rfl, ⟨h.base.1, fun b hb => h.base.2 b (Nat.le_trans k.size (Nat.le_trans (keep_set (w := w2) (b := d)).size hb))⟩,
    h.l1.keep ks (nrow h.l1 (by decide) (by decide)), h.l2.keep ks (nrow h.l2 (by decide) (by decide)), h.l3.keep ks (nrow h.l3 (by decide) (by decide)), h.l4.keep ks (nrow h.l4 (by decide) (by decide)), hnew, h.l6.keep ks (nrow h.l6 (by decide) (by decide)),
    h.fr, h.fs,
    fun y hy => (h.ir y hy).keep ks (nint (h.ir y hy)),
    fun y hy => (h.is y hy).keep ks (nint (h.is y hy)),
    h.o1, h.o2, h.o3, h.o4, fun b hb => by rcases ho b hb with e | e; exact h.o5 b e; exact h.base.2 b e, h.o6,
    h.qr, h.qs⟩

theorem DbV.put6 {B : Nat → Prop} {w w2 : World} {d : Nat} {D : DbM} {v1 v2 v3 v4 v5 v6 v' : Value} {rr : List (RecM × Value)} {ss : List (ShopM × Value)} {x : ShopM} {u : Value} (h : DbV B w d D v1 v2 v3 v4 v5 v6 rr ss) (hr : Rec w2 107 shopC 3 v' (ss ++ [(x, u)])) (k : Keep (fun b => v6.ownBlock = some b) w w2) (ho : ∀ b, v'.ownBlock = some b → v6.ownBlock = some b ∨ w.heap.size ≤ b) (hu : Ints w u x.items) (hq : ∀ b, u.ownBlock = some b → B b) :
    DbV B (w2.setCell ⟨d, 5, none⟩ v') d (push D (.shop x)) v1 v2 v3 v4 v5 v' rr (ss ++ [(x, u)]) := by
  have hds := lt_of_block h.blk
  have nd : ¬ v6.ownBlock = some d := fun e => by obtain ⟨cs, f, hb⟩ := h.l6.type e; exact ty_ne h.blk hb (by decide) rfl
  have bd : w2.heap[d]? = some (.cells #[v1, v2, v3, v4, v5, v6] 96 (0, 0)) := (k.block d hds nd).trans h.blk
  have ks : Keep (fun b => v6.ownBlock = some b ∨ b = d) w (w2.setCell ⟨d, 5, none⟩ v') := (k.mono (fun b _ hb => .inl hb)).trans keep_set (fun b hb => .inl (.inr hb))
  have nrow : ∀ {T s n : Nat} {v : Value} {xs : List Value}, Row w T s v n xs → T ≠ 107 → T ≠ 96 → ∀ b, v.ownBlock = some b → ¬ (v6.ownBlock = some b ∨ b = d) := fun hw h1 h2 b hb hh => by
    obtain ⟨cs, f, e⟩ := hw.type hb
    rcases hh with hh | hh
    · obtain ⟨cs', f', e'⟩ := h.l6.type hh; exact ty_ne e e' h1 rfl
    · subst hh; exact ty_ne e h.blk h2 rfl
  have nint : ∀ {v : Value} {l : List Int}, Ints w v l → ∀ b, v.ownBlock = some b → b < w.heap.size → ¬ (v6.ownBlock = some b ∨ b = d) := fun hw b hb _ hh => by
    obtain ⟨cs, f, e⟩ := hw.2 b hb
    rcases hh with hh | hh
    · obtain ⟨cs', f', e'⟩ := h.l6.type hh; exact ty_ne e e' (by decide) rfl
    · subst hh; exact ty_ne e h.blk (by decide) rfl
  have hnew : Rec (w2.setCell ⟨d, 5, none⟩ v') 107 shopC 3 v' (ss ++ [(x, u)]) := hr.keep keep_set (fun b hb e => by
    subst e
    obtain ⟨cs, f, hh⟩ := hr.type hb
    exact ty_ne bd hh (by decide) rfl)
  exact ⟨by rw [(Joins.block_setCell bd v')]; rfl, ⟨h.base.1, fun b hb => h.base.2 b (Nat.le_trans k.size (Nat.le_trans (keep_set (w := w2) (b := d)).size hb))⟩,
    h.l1.keep ks (nrow h.l1 (by decide) (by decide)), h.l2.keep ks (nrow h.l2 (by decide) (by decide)), h.l3.keep ks (nrow h.l3 (by decide) (by decide)), h.l4.keep ks (nrow h.l4 (by decide) (by decide)), h.l5.keep ks (nrow h.l5 (by decide) (by decide)), hnew,
    h.fr, by rw [List.map_append, h.fs]; rfl,
    fun y hy => (h.ir y hy).keep ks (nint (h.ir y hy)),
    fun y hy => by
      rcases List.mem_append.1 hy with hy | hy
      · exact (h.is y hy).keep ks (nint (h.is y hy))
      · obtain rfl : y = (x, u) := by simpa using hy
        exact hu.keep ks (nint hu),
    h.o1, h.o2, h.o3, h.o4, h.o5, fun b hb => by rcases ho b hb with e | e; exact h.o6 b e; exact h.base.2 b e,
    h.qr, fun y hy => by
      rcases List.mem_append.1 hy with hy | hy
      · exact h.qs y hy
      · obtain rfl : y = (x, u) := by simpa using hy
        exact hq⟩
/-- A room whose first j exits are told. -/
def roomJ (id : Int) (name : ByteArray) (kind price : Int) (e : List Int) (j : Nat) : RoomM :=
  ⟨id, name, kind, price, if 0 < j then e.getD 0 0 else 0, if 1 < j then e.getD 1 0 else 0, if 2 < j then e.getD 2 0 else 0, if 3 < j then e.getD 3 0 else 0, if 4 < j then e.getD 4 0 else 0, if 5 < j then e.getD 5 0 else 0⟩
theorem roomJ_set (id : Int) (name : ByteArray) (kind price : Int) (e : List Int) {j : Nat} (h : j < 6) : ((roomC (roomJ id name kind price e j)).toArray.setIfInBounds (4 + j) (.int .i64 (e.getD j 0))) = (roomC (roomJ id name kind price e (j + 1))).toArray := by
  match j, h with
  | 0, _ => rfl
  | 1, _ => rfl
  | 2, _ => rfl
  | 3, _ => rfl
  | 4, _ => rfl
  | 5, _ => rfl
  | j + 6, h => omega
end Go.Proofs.YtheaghgockafmaaGreat.Wd
