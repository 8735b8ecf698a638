/- World files: the program's tables while they grow (made by tools/gendo.py). -/
import Derived.Test.YtheaghgockafmaaGreatDbG
import Derived.Test.YtheaghgockafmaaGreatDbN
namespace Go.Proofs.YtheaghgockafmaaGreat.Wd
open Go.RowKit Go.Maps Go.Proofs.YtheaghgockafmaaGreat Go.Proofs.YtheaghgockafmaaGreat.Lin
set_option maxRecDepth 100000

/-- They lie in different blocks. -/
def ApartV (a b : Value) : Prop := ∀ k, a.ownBlock = some k → b.ownBlock ≠ some k
theorem ApartV.symm {a b : Value} (h : ApartV a b) : ApartV b a := fun k hb ha => h k ha hb

/-- The types of the tables' blocks. -/
def dbTys : List Nat := [96, 127, 133, 105, 135, 137, 107, 3]
/-- F has no block of such a type. -/
def Off (F : Nat → Prop) (w : World) : Prop := ∀ b cs t f, F b → w.heap[b]? = some (.cells cs t f) → t ∉ dbTys

theorem DbV.keepT {B : Nat → Prop} {w w' : World} {d : Nat} {D : DbM} {v1 v2 v3 v4 v5 v6 : Value} {rr : List (RecM × Value)} {ss : List (ShopM × Value)} {F : Nat → Prop} (h : DbV B w d D v1 v2 v3 v4 v5 v6 rr ss) (k : Keep F w w') (hF : Off F w) : DbV B w' d D v1 v2 v3 v4 v5 v6 rr ss := by
  have hr : ∀ {T s n : Nat} {v : Value} {xs : List Value}, Row w T s v n xs → T ∈ dbTys → ∀ b, v.ownBlock = some b → ¬ F b := fun hw ht b hb hf => by
    obtain ⟨cs, f, e⟩ := hw.type hb
    exact hF b _ _ _ hf e ht
  have hi : ∀ {v : Value} {l : List Int}, Ints w v l → ∀ b, v.ownBlock = some b → b < w.heap.size → ¬ F b := fun hw b hb _ hf => by
    obtain ⟨cs, f, e⟩ := hw.2 b hb
    exact hF b _ _ _ hf e (by simp [dbTys])
  exact ⟨(k.block d (lt_of_block h.blk) (fun hf => hF d _ _ _ hf h.blk (by simp [dbTys]))).trans h.blk, ⟨h.base.1, fun b hb => h.base.2 b (Nat.le_trans k.size hb)⟩,
    h.l1.keep k (hr h.l1 (by simp [dbTys])), h.l2.keep k (hr h.l2 (by simp [dbTys])), h.l3.keep k (hr h.l3 (by simp [dbTys])), h.l4.keep k (hr h.l4 (by simp [dbTys])), h.l5.keep k (hr h.l5 (by simp [dbTys])), h.l6.keep k (hr h.l6 (by simp [dbTys])),
    h.fr, h.fs, fun x hx => (h.ir x hx).keep k (hi (h.ir x hx)), fun x hx => (h.is x hx).keep k (hi (h.is x hx)), h.o1, h.o2, h.o3, h.o4, h.o5, h.o6, h.qr, h.qs⟩

/-- The program's tables: needs and items in memory of their own. -/
structure DbO (B : Nat → Prop) (w : World) (d : Nat) (D : DbM) (v1 v2 v3 v4 v5 v6 : Value) (rr : List (RecM × Value)) (ss : List (ShopM × Value)) : Prop where
  v : DbV B w d D v1 v2 v3 v4 v5 v6 rr ss
  wr : ∀ x ∈ rr, Row w 3 1 x.2 x.1.needs.length (icells x.1.needs)
  ws : ∀ x ∈ ss, Row w 3 1 x.2 x.1.items.length (icells x.1.items)
  ap : (rr.map Prod.snd ++ ss.map Prod.snd).Pairwise ApartV

theorem DbO.keepT {B : Nat → Prop} {w w' : World} {d : Nat} {D : DbM} {v1 v2 v3 v4 v5 v6 : Value} {rr : List (RecM × Value)} {ss : List (ShopM × Value)} {F : Nat → Prop} (h : DbO B w d D v1 v2 v3 v4 v5 v6 rr ss) (k : Keep F w w') (hF : Off F w) : DbO B w' d D v1 v2 v3 v4 v5 v6 rr ss := by
  have hr : ∀ {n : Nat} {v : Value} {xs : List Value}, Row w 3 1 v n xs → ∀ b, v.ownBlock = some b → ¬ F b := fun hw b hb hf => by
    obtain ⟨cs, f, e⟩ := hw.type hb
    exact hF b _ _ _ hf e (by simp [dbTys])
  exact ⟨h.v.keepT k hF, fun x hx => (h.wr x hx).keep k (hr (h.wr x hx)), fun x hx => (h.ws x hx).keep k (hr (h.ws x hx)), h.ap⟩
theorem Off.none (w : World) : Off (fun _ => False) w := fun _ _ _ _ h => h.elim
theorem DbO.keep0 {B : Nat → Prop} {w w' : World} {d : Nat} {D : DbM} {v1 v2 v3 v4 v5 v6 : Value} {rr : List (RecM × Value)} {ss : List (ShopM × Value)} (h : DbO B w d D v1 v2 v3 v4 v5 v6 rr ss) (k : Keep (fun _ => False) w w') : DbO B w' d D v1 v2 v3 v4 v5 v6 rr ss := h.keepT k (Off.none w)

theorem row_ks {w w2 : World} {d o : Nat} {v v' : Value} {T : Nat} {cs : Array Value} {fr : Nat × Nat} (hblk : w.heap[d]? = some (.cells cs 96 fr)) (hty : ∀ b, v.ownBlock = some b → ∃ cs f, w.heap[b]? = some (.cells cs T f)) (hT : T ≠ 3) (k : Keep (fun b => v.ownBlock = some b) w w2) {u : Value} {n : Nat} {xs : List Value} (hrow : Row w 3 1 u n xs) : Row (w2.setCell ⟨d, o, none⟩ v') 3 1 u n xs := by
  have ks : Keep (fun b => v.ownBlock = some b ∨ b = d) w (w2.setCell ⟨d, o, none⟩ v') := (k.mono (fun b _ hb => .inl hb)).trans keep_set (fun b hb => .inl (.inr hb))
  refine hrow.keep ks (fun b hb hh => ?_)
  obtain ⟨cs1, f1, e1⟩ := hrow.type hb
  rcases hh with hh | hh
  · obtain ⟨cs2, f2, e2⟩ := hty b hh
    exact ty_ne e2 e1 hT rfl
  · subst hh
    exact ty_ne hblk e1 (by decide) rfl

theorem pair_mid {α : Type} {R : α → α → Prop} (hs : ∀ a b, R a b → R b a) {A C : List α} {x : α} (h : (A ++ C).Pairwise R) (hx : ∀ y ∈ A ++ C, R x y) : ((A ++ [x]) ++ C).Pairwise R := by
  rw [List.append_assoc, List.singleton_append]
  rw [List.pairwise_append] at h ⊢
  refine ⟨h.1, List.pairwise_cons.2 ⟨fun y hy => hx y (by simp [hy]), h.2.1⟩, fun a ha b hb => ?_⟩
  rcases List.mem_cons.1 hb with rfl | hb
  · exact hs _ _ (hx a (by simp [ha]))
  · exact h.2.2 a ha b hb

theorem DbO.put1 {B : Nat → Prop} {w w2 : World} {d : Nat} {D : DbM} {v1 v2 v3 v4 v5 v6 v' : Value} {rr : List (RecM × Value)} {ss : List (ShopM × Value)} {x : RoomM} (h : DbO B w d D v1 v2 v3 v4 v5 v6 rr ss) (hr : Rec w2 127 roomC 10 v' (D.rooms ++ [x])) (k : Keep (fun b => v1.ownBlock = some b) w w2) (ho : ∀ b, v'.ownBlock = some b → v1.ownBlock = some b ∨ w.heap.size ≤ b) :
    DbO B (w2.setCell ⟨d, 0, none⟩ v') d (push D (.room x)) v' v2 v3 v4 v5 v6 rr ss := by
  refine ⟨h.v.put1 hr k ho, ?_, ?_, ?_⟩
  · exact fun y hy => row_ks h.v.blk (fun b hb => h.v.l1.type hb) (by decide) k (h.wr y hy)
  · exact fun y hy => row_ks h.v.blk (fun b hb => h.v.l1.type hb) (by decide) k (h.ws y hy)
  · exact h.ap

theorem DbO.put2 {B : Nat → Prop} {w w2 : World} {d : Nat} {D : DbM} {v1 v2 v3 v4 v5 v6 v' : Value} {rr : List (RecM × Value)} {ss : List (ShopM × Value)} {x : ProtoM} (h : DbO B w d D v1 v2 v3 v4 v5 v6 rr ss) (hr : Rec w2 133 protoC 5 v' (D.protos ++ [x])) (k : Keep (fun b => v2.ownBlock = some b) w w2) (ho : ∀ b, v'.ownBlock = some b → v2.ownBlock = some b ∨ w.heap.size ≤ b) :
    DbO B (w2.setCell ⟨d, 1, none⟩ v') d (push D (.proto x)) v1 v' v3 v4 v5 v6 rr ss := by
  refine ⟨h.v.put2 hr k ho, ?_, ?_, ?_⟩
  · exact fun y hy => row_ks h.v.blk (fun b hb => h.v.l2.type hb) (by decide) k (h.wr y hy)
  · exact fun y hy => row_ks h.v.blk (fun b hb => h.v.l2.type hb) (by decide) k (h.ws y hy)
  · exact h.ap

theorem DbO.put3 {B : Nat → Prop} {w w2 : World} {d : Nat} {D : DbM} {v1 v2 v3 v4 v5 v6 v' : Value} {rr : List (RecM × Value)} {ss : List (ShopM × Value)} {x : MobPM} (h : DbO B w d D v1 v2 v3 v4 v5 v6 rr ss) (hr : Rec w2 105 mobpC 7 v' (D.mobs ++ [x])) (k : Keep (fun b => v3.ownBlock = some b) w w2) (ho : ∀ b, v'.ownBlock = some b → v3.ownBlock = some b ∨ w.heap.size ≤ b) :
    DbO B (w2.setCell ⟨d, 2, none⟩ v') d (push D (.mob x)) v1 v2 v' v4 v5 v6 rr ss := by
  refine ⟨h.v.put3 hr k ho, ?_, ?_, ?_⟩
  · exact fun y hy => row_ks h.v.blk (fun b hb => h.v.l3.type hb) (by decide) k (h.wr y hy)
  · exact fun y hy => row_ks h.v.blk (fun b hb => h.v.l3.type hb) (by decide) k (h.ws y hy)
  · exact h.ap

theorem DbO.put4 {B : Nat → Prop} {w w2 : World} {d : Nat} {D : DbM} {v1 v2 v3 v4 v5 v6 v' : Value} {rr : List (RecM × Value)} {ss : List (ShopM × Value)} {x : RecM} {u : Value} (h : DbO B w d D v1 v2 v3 v4 v5 v6 rr ss) (hr : Rec w2 135 recC 2 v' (rr ++ [(x, u)])) (k : Keep (fun b => v4.ownBlock = some b) w w2) (ho : ∀ b, v'.ownBlock = some b → v4.ownBlock = some b ∨ w.heap.size ≤ b) (hu : Row w 3 1 u x.needs.length (icells x.needs)) (hq : ∀ b, u.ownBlock = some b → B b) (hap : ∀ y ∈ rr.map Prod.snd ++ ss.map Prod.snd, ApartV u y) :
    DbO B (w2.setCell ⟨d, 3, none⟩ v') d (push D (.recipe x)) v1 v2 v3 v' v5 v6 (rr ++ [(x, u)]) ss := by
  refine ⟨h.v.put4 hr k ho (Ints.of_row hu) hq, ?_, ?_, ?_⟩
  · exact fun y hy => by
      rcases List.mem_append.1 hy with hy | hy
      · exact row_ks h.v.blk (fun b hb => h.v.l4.type hb) (by decide) k (h.wr y hy)
      · obtain rfl : y = (x, u) := by simpa using hy
        exact row_ks h.v.blk (fun b hb => h.v.l4.type hb) (by decide) k hu
  · exact fun y hy => row_ks h.v.blk (fun b hb => h.v.l4.type hb) (by decide) k (h.ws y hy)
  · exact by rw [List.map_append]; exact pair_mid (fun _ _ h => h.symm) h.ap hap

theorem DbO.put5 {B : Nat → Prop} {w w2 : World} {d : Nat} {D : DbM} {v1 v2 v3 v4 v5 v6 v' : Value} {rr : List (RecM × Value)} {ss : List (ShopM × Value)} {x : QuestM} (h : DbO B w d D v1 v2 v3 v4 v5 v6 rr ss) (hr : Rec w2 137 questC 5 v' (D.quests ++ [x])) (k : Keep (fun b => v5.ownBlock = some b) w w2) (ho : ∀ b, v'.ownBlock = some b → v5.ownBlock = some b ∨ w.heap.size ≤ b) :
    DbO B (w2.setCell ⟨d, 4, none⟩ v') d (push D (.quest x)) v1 v2 v3 v4 v' v6 rr ss := by
  refine ⟨h.v.put5 hr k ho, ?_, ?_, ?_⟩
  · exact fun y hy => row_ks h.v.blk (fun b hb => h.v.l5.type hb) (by decide) k (h.wr y hy)
  · exact fun y hy => row_ks h.v.blk (fun b hb => h.v.l5.type hb) (by decide) k (h.ws y hy)
  · exact h.ap

theorem DbO.put6 {B : Nat → Prop} {w w2 : World} {d : Nat} {D : DbM} {v1 v2 v3 v4 v5 v6 v' : Value} {rr : List (RecM × Value)} {ss : List (ShopM × Value)} {x : ShopM} {u : Value} (h : DbO B w d D v1 v2 v3 v4 v5 v6 rr ss) (hr : Rec w2 107 shopC 3 v' (ss ++ [(x, u)])) (k : Keep (fun b => v6.ownBlock = some b) w w2) (ho : ∀ b, v'.ownBlock = some b → v6.ownBlock = some b ∨ w.heap.size ≤ b) (hu : Row w 3 1 u x.items.length (icells x.items)) (hq : ∀ b, u.ownBlock = some b → B b) (hap : ∀ y ∈ rr.map Prod.snd ++ ss.map Prod.snd, ApartV u y) :
    DbO B (w2.setCell ⟨d, 5, none⟩ v') d (push D (.shop x)) v1 v2 v3 v4 v5 v' rr (ss ++ [(x, u)]) := by
  refine ⟨h.v.put6 hr k ho (Ints.of_row hu) hq, ?_, ?_, ?_⟩
  · exact fun y hy => row_ks h.v.blk (fun b hb => h.v.l6.type hb) (by decide) k (h.wr y hy)
  · exact fun y hy => by
      rcases List.mem_append.1 hy with hy | hy
      · exact row_ks h.v.blk (fun b hb => h.v.l6.type hb) (by decide) k (h.ws y hy)
      · obtain rfl : y = (x, u) := by simpa using hy
        exact row_ks h.v.blk (fun b hb => h.v.l6.type hb) (by decide) k hu
  · exact by rw [List.map_append, ← List.append_assoc]; have := pair_mid (C := []) (x := u) (fun _ _ h => ApartV.symm h) (by rw [List.append_nil]; exact h.ap) (by rw [List.append_nil]; exact hap); simpa using this

/-- A line came into the program's tables, or none. -/
def AddA (B : Nat → Prop) (w : World) (d : Nat) (D : DbM) (o : Option RecI) (e : Ending) (w' : World) : Prop :=
  (∃ R v1 v2 v3 v4 v5 v6 rr ss, o = some R ∧ e = .returned (.bool true) ∧ DbO B w' d (push D R) v1 v2 v3 v4 v5 v6 rr ss ∧ Keep (fun b => B b) w w') ∨
  (o = none ∧ e = .returned (.bool false) ∧ Keep (fun b => B b) w w')
end Go.Proofs.YtheaghgockafmaaGreat.Wd
