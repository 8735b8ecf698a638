/- codec: a world of one's own that is changed, list by list. -/
import Derived.Test.YtpefkellcigpkaaCdCopy
namespace Go.Proofs.Ytpefkellcigpkaa.Cd
open Go.RowKit Go.Deep Go.Proofs.Ytpefkellcigpkaa
set_option maxRecDepth 100000

abbrev MThing := Int × Int × Int × Int × ByteArray
abbrev MMob := Int × Int × Int × Int
abbrev MLot := Int × Int × ByteArray × Int × Int × ByteArray × Int
abbrev MTill := Int × Int

/-- Where a world's lists lie. -/
structure Rng where
  B : Nat
  c1 : Nat
  c2 : Nat
  c3 : Nat
  c4 : Nat
  c5 : Nat
  c6 : Nat
  c7 : Nat
  h0 : B < c1
  h1 : c1 ≤ c2
  h2 : c2 ≤ c3
  h3 : c3 ≤ c4
  h4 : c4 ≤ c5
  h5 : c5 ≤ c6
  h6 : c6 ≤ c7

/-- A world of one's own. -/
structure W6 (r : Rng) (w0 w : World) (a b c : Int) (v1 v2 v3 v4 v5 v6 : Value) (chars : List MChar) (things : List MThing) (mobs : List MMob) (houses : List MHouse) (lots : List MLot) (tills : List MTill) : Prop where
  box : w.heap[r.B]? = some (.cells (wcells a b c v1 v2 v3 v4 v5 v6) 29 (0, 0))
  m1 : Mine eChar 58 r.c1 r.c2 w v1 chars
  m2 : Mine eThing 61 r.c3 r.c4 w v2 things
  m3 : Mine eMob 54 r.c4 r.c5 w v3 mobs
  m4 : Mine eHouseW 65 r.c2 r.c3 w v4 houses
  m5 : Mine eLot 67 r.c5 r.c6 w v5 lots
  m6 : Mine eTill 81 r.c6 r.c7 w v6 tills
  keep : Keep (fun _ => False) w0 w
  low : w0.heap.size ≤ r.B

section
variable {r : Rng} {w0 w w' : World} {a b c : Int} {v1 v2 v3 v4 v5 v6 : Value} {chars chars' : List MChar} {things things' : List MThing} {mobs mobs' : List MMob} {houses houses' : List MHouse} {lots lots' : List MLot} {tills tills' : List MTill}
theorem W6.cell (h : W6 r w0 w a b c v1 v2 v3 v4 v5 v6 chars things mobs houses lots tills) (f : Nat) (v : Value) (hv : (wcells a b c v1 v2 v3 v4 v5 v6)[f]? = some v) : w.cell? ⟨r.B, f, none⟩ = some v ∧ w.frozen? ⟨r.B, f, none⟩ = false :=
  ⟨(cell_of_row w r.B f _ _ _ h.box).trans hv, frozen_of_row w r.B f _ _ h.box⟩
theorem W6.cut3 {ad : Option Addr} {n cap : Nat} (h : W6 r w0 w a b c (.slice ad n cap) v2 v3 v4 v5 v6 chars things mobs houses lots tills) (k : Nat) (hk : k < chars.length) : W6 r w0 (w.setCell ⟨r.B, 3, none⟩ (.slice ad k cap)) a b c (.slice ad k cap) v2 v3 v4 v5 v6 (chars.take k) things mobs houses lots tills := by
  have q : Keep (fun b => b = r.B) w (w.setCell ⟨r.B, 3, none⟩ (.slice ad k cap)) := (Keep.refl _ w).setCell _ _ (.inl rfl)
  exact ⟨(heap_setCell_at _ h.box).trans rfl, (h.m1.head k hk).keep q (fun g h1 h2 e => by have := r.h0; have := r.h1; have := r.h2; have := r.h3; have := r.h4; have := r.h5; omega), h.m2.keep q (fun g h1 h2 e => by have := r.h0; have := r.h1; have := r.h2; have := r.h3; have := r.h4; have := r.h5; omega), h.m3.keep q (fun g h1 h2 e => by have := r.h0; have := r.h1; have := r.h2; have := r.h3; have := r.h4; have := r.h5; omega), h.m4.keep q (fun g h1 h2 e => by have := r.h0; have := r.h1; have := r.h2; have := r.h3; have := r.h4; have := r.h5; omega), h.m5.keep q (fun g h1 h2 e => by have := r.h0; have := r.h1; have := r.h2; have := r.h3; have := r.h4; have := r.h5; omega), h.m6.keep q (fun g h1 h2 e => by have := r.h0; have := r.h1; have := r.h2; have := r.h3; have := r.h4; have := r.h5; omega), h.keep.trans q (fun g e => .inr (by have := h.low; omega)), h.low⟩
theorem W6.turn3 (h : W6 r w0 w a b c v1 v2 v3 v4 v5 v6 chars things mobs houses lots tills) (q : Keep (fun g => r.c1 ≤ g ∧ g < r.c2) w w') (m : Mine eChar 58 r.c1 r.c2 w' v1 chars') : W6 r w0 w' a b c v1 v2 v3 v4 v5 v6 chars' things mobs houses lots tills :=
  ⟨(q.block _ (lt_of_block h.box) (by have := r.h0; have := r.h1; have := r.h2; have := r.h3; have := r.h4; have := r.h5; omega)).trans h.box, m, h.m2.keep q (fun g h1 h2 e => by have := r.h0; have := r.h1; have := r.h2; have := r.h3; have := r.h4; have := r.h5; omega), h.m3.keep q (fun g h1 h2 e => by have := r.h0; have := r.h1; have := r.h2; have := r.h3; have := r.h4; have := r.h5; omega), h.m4.keep q (fun g h1 h2 e => by have := r.h0; have := r.h1; have := r.h2; have := r.h3; have := r.h4; have := r.h5; omega), h.m5.keep q (fun g h1 h2 e => by have := r.h0; have := r.h1; have := r.h2; have := r.h3; have := r.h4; have := r.h5; omega), h.m6.keep q (fun g h1 h2 e => by have := r.h0; have := r.h1; have := r.h2; have := r.h3; have := r.h4; have := r.h5; omega), h.keep.trans q (fun g e => .inr (by have := h.low; have := r.h0; have := r.h1; have := r.h2; have := r.h3; have := r.h4; have := r.h5; omega)), h.low⟩
theorem W6.cut4 {ad : Option Addr} {n cap : Nat} (h : W6 r w0 w a b c v1 (.slice ad n cap) v3 v4 v5 v6 chars things mobs houses lots tills) (k : Nat) (hk : k < things.length) : W6 r w0 (w.setCell ⟨r.B, 4, none⟩ (.slice ad k cap)) a b c v1 (.slice ad k cap) v3 v4 v5 v6 chars (things.take k) mobs houses lots tills := by
  have q : Keep (fun b => b = r.B) w (w.setCell ⟨r.B, 4, none⟩ (.slice ad k cap)) := (Keep.refl _ w).setCell _ _ (.inl rfl)
  exact ⟨(heap_setCell_at _ h.box).trans rfl, h.m1.keep q (fun g h1 h2 e => by have := r.h0; have := r.h1; have := r.h2; have := r.h3; have := r.h4; have := r.h5; omega), (h.m2.head k hk).keep q (fun g h1 h2 e => by have := r.h0; have := r.h1; have := r.h2; have := r.h3; have := r.h4; have := r.h5; omega), h.m3.keep q (fun g h1 h2 e => by have := r.h0; have := r.h1; have := r.h2; have := r.h3; have := r.h4; have := r.h5; omega), h.m4.keep q (fun g h1 h2 e => by have := r.h0; have := r.h1; have := r.h2; have := r.h3; have := r.h4; have := r.h5; omega), h.m5.keep q (fun g h1 h2 e => by have := r.h0; have := r.h1; have := r.h2; have := r.h3; have := r.h4; have := r.h5; omega), h.m6.keep q (fun g h1 h2 e => by have := r.h0; have := r.h1; have := r.h2; have := r.h3; have := r.h4; have := r.h5; omega), h.keep.trans q (fun g e => .inr (by have := h.low; omega)), h.low⟩
theorem W6.turn4 (h : W6 r w0 w a b c v1 v2 v3 v4 v5 v6 chars things mobs houses lots tills) (q : Keep (fun g => r.c3 ≤ g ∧ g < r.c4) w w') (m : Mine eThing 61 r.c3 r.c4 w' v2 things') : W6 r w0 w' a b c v1 v2 v3 v4 v5 v6 chars things' mobs houses lots tills :=
  ⟨(q.block _ (lt_of_block h.box) (by have := r.h0; have := r.h1; have := r.h2; have := r.h3; have := r.h4; have := r.h5; omega)).trans h.box, h.m1.keep q (fun g h1 h2 e => by have := r.h0; have := r.h1; have := r.h2; have := r.h3; have := r.h4; have := r.h5; omega), m, h.m3.keep q (fun g h1 h2 e => by have := r.h0; have := r.h1; have := r.h2; have := r.h3; have := r.h4; have := r.h5; omega), h.m4.keep q (fun g h1 h2 e => by have := r.h0; have := r.h1; have := r.h2; have := r.h3; have := r.h4; have := r.h5; omega), h.m5.keep q (fun g h1 h2 e => by have := r.h0; have := r.h1; have := r.h2; have := r.h3; have := r.h4; have := r.h5; omega), h.m6.keep q (fun g h1 h2 e => by have := r.h0; have := r.h1; have := r.h2; have := r.h3; have := r.h4; have := r.h5; omega), h.keep.trans q (fun g e => .inr (by have := h.low; have := r.h0; have := r.h1; have := r.h2; have := r.h3; have := r.h4; have := r.h5; omega)), h.low⟩
theorem W6.cut5 {ad : Option Addr} {n cap : Nat} (h : W6 r w0 w a b c v1 v2 (.slice ad n cap) v4 v5 v6 chars things mobs houses lots tills) (k : Nat) (hk : k < mobs.length) : W6 r w0 (w.setCell ⟨r.B, 5, none⟩ (.slice ad k cap)) a b c v1 v2 (.slice ad k cap) v4 v5 v6 chars things (mobs.take k) houses lots tills := by
  have q : Keep (fun b => b = r.B) w (w.setCell ⟨r.B, 5, none⟩ (.slice ad k cap)) := (Keep.refl _ w).setCell _ _ (.inl rfl)
  exact ⟨(heap_setCell_at _ h.box).trans rfl, h.m1.keep q (fun g h1 h2 e => by have := r.h0; have := r.h1; have := r.h2; have := r.h3; have := r.h4; have := r.h5; omega), h.m2.keep q (fun g h1 h2 e => by have := r.h0; have := r.h1; have := r.h2; have := r.h3; have := r.h4; have := r.h5; omega), (h.m3.head k hk).keep q (fun g h1 h2 e => by have := r.h0; have := r.h1; have := r.h2; have := r.h3; have := r.h4; have := r.h5; omega), h.m4.keep q (fun g h1 h2 e => by have := r.h0; have := r.h1; have := r.h2; have := r.h3; have := r.h4; have := r.h5; omega), h.m5.keep q (fun g h1 h2 e => by have := r.h0; have := r.h1; have := r.h2; have := r.h3; have := r.h4; have := r.h5; omega), h.m6.keep q (fun g h1 h2 e => by have := r.h0; have := r.h1; have := r.h2; have := r.h3; have := r.h4; have := r.h5; omega), h.keep.trans q (fun g e => .inr (by have := h.low; omega)), h.low⟩
theorem W6.turn5 (h : W6 r w0 w a b c v1 v2 v3 v4 v5 v6 chars things mobs houses lots tills) (q : Keep (fun g => r.c4 ≤ g ∧ g < r.c5) w w') (m : Mine eMob 54 r.c4 r.c5 w' v3 mobs') : W6 r w0 w' a b c v1 v2 v3 v4 v5 v6 chars things mobs' houses lots tills :=
  ⟨(q.block _ (lt_of_block h.box) (by have := r.h0; have := r.h1; have := r.h2; have := r.h3; have := r.h4; have := r.h5; omega)).trans h.box, h.m1.keep q (fun g h1 h2 e => by have := r.h0; have := r.h1; have := r.h2; have := r.h3; have := r.h4; have := r.h5; omega), h.m2.keep q (fun g h1 h2 e => by have := r.h0; have := r.h1; have := r.h2; have := r.h3; have := r.h4; have := r.h5; omega), m, h.m4.keep q (fun g h1 h2 e => by have := r.h0; have := r.h1; have := r.h2; have := r.h3; have := r.h4; have := r.h5; omega), h.m5.keep q (fun g h1 h2 e => by have := r.h0; have := r.h1; have := r.h2; have := r.h3; have := r.h4; have := r.h5; omega), h.m6.keep q (fun g h1 h2 e => by have := r.h0; have := r.h1; have := r.h2; have := r.h3; have := r.h4; have := r.h5; omega), h.keep.trans q (fun g e => .inr (by have := h.low; have := r.h0; have := r.h1; have := r.h2; have := r.h3; have := r.h4; have := r.h5; omega)), h.low⟩
theorem W6.cut6 {ad : Option Addr} {n cap : Nat} (h : W6 r w0 w a b c v1 v2 v3 (.slice ad n cap) v5 v6 chars things mobs houses lots tills) (k : Nat) (hk : k < houses.length) : W6 r w0 (w.setCell ⟨r.B, 6, none⟩ (.slice ad k cap)) a b c v1 v2 v3 (.slice ad k cap) v5 v6 chars things mobs (houses.take k) lots tills := by
  have q : Keep (fun b => b = r.B) w (w.setCell ⟨r.B, 6, none⟩ (.slice ad k cap)) := (Keep.refl _ w).setCell _ _ (.inl rfl)
  exact ⟨(heap_setCell_at _ h.box).trans rfl, h.m1.keep q (fun g h1 h2 e => by have := r.h0; have := r.h1; have := r.h2; have := r.h3; have := r.h4; have := r.h5; omega), h.m2.keep q (fun g h1 h2 e => by have := r.h0; have := r.h1; have := r.h2; have := r.h3; have := r.h4; have := r.h5; omega), h.m3.keep q (fun g h1 h2 e => by have := r.h0; have := r.h1; have := r.h2; have := r.h3; have := r.h4; have := r.h5; omega), (h.m4.head k hk).keep q (fun g h1 h2 e => by have := r.h0; have := r.h1; have := r.h2; have := r.h3; have := r.h4; have := r.h5; omega), h.m5.keep q (fun g h1 h2 e => by have := r.h0; have := r.h1; have := r.h2; have := r.h3; have := r.h4; have := r.h5; omega), h.m6.keep q (fun g h1 h2 e => by have := r.h0; have := r.h1; have := r.h2; have := r.h3; have := r.h4; have := r.h5; omega), h.keep.trans q (fun g e => .inr (by have := h.low; omega)), h.low⟩
theorem W6.turn6 (h : W6 r w0 w a b c v1 v2 v3 v4 v5 v6 chars things mobs houses lots tills) (q : Keep (fun g => r.c2 ≤ g ∧ g < r.c3) w w') (m : Mine eHouseW 65 r.c2 r.c3 w' v4 houses') : W6 r w0 w' a b c v1 v2 v3 v4 v5 v6 chars things mobs houses' lots tills :=
  ⟨(q.block _ (lt_of_block h.box) (by have := r.h0; have := r.h1; have := r.h2; have := r.h3; have := r.h4; have := r.h5; omega)).trans h.box, h.m1.keep q (fun g h1 h2 e => by have := r.h0; have := r.h1; have := r.h2; have := r.h3; have := r.h4; have := r.h5; omega), h.m2.keep q (fun g h1 h2 e => by have := r.h0; have := r.h1; have := r.h2; have := r.h3; have := r.h4; have := r.h5; omega), h.m3.keep q (fun g h1 h2 e => by have := r.h0; have := r.h1; have := r.h2; have := r.h3; have := r.h4; have := r.h5; omega), m, h.m5.keep q (fun g h1 h2 e => by have := r.h0; have := r.h1; have := r.h2; have := r.h3; have := r.h4; have := r.h5; omega), h.m6.keep q (fun g h1 h2 e => by have := r.h0; have := r.h1; have := r.h2; have := r.h3; have := r.h4; have := r.h5; omega), h.keep.trans q (fun g e => .inr (by have := h.low; have := r.h0; have := r.h1; have := r.h2; have := r.h3; have := r.h4; have := r.h5; omega)), h.low⟩
theorem W6.cut7 {ad : Option Addr} {n cap : Nat} (h : W6 r w0 w a b c v1 v2 v3 v4 (.slice ad n cap) v6 chars things mobs houses lots tills) (k : Nat) (hk : k < lots.length) : W6 r w0 (w.setCell ⟨r.B, 7, none⟩ (.slice ad k cap)) a b c v1 v2 v3 v4 (.slice ad k cap) v6 chars things mobs houses (lots.take k) tills := by
  have q : Keep (fun b => b = r.B) w (w.setCell ⟨r.B, 7, none⟩ (.slice ad k cap)) := (Keep.refl _ w).setCell _ _ (.inl rfl)
  exact ⟨(heap_setCell_at _ h.box).trans rfl, h.m1.keep q (fun g h1 h2 e => by have := r.h0; have := r.h1; have := r.h2; have := r.h3; have := r.h4; have := r.h5; omega), h.m2.keep q (fun g h1 h2 e => by have := r.h0; have := r.h1; have := r.h2; have := r.h3; have := r.h4; have := r.h5; omega), h.m3.keep q (fun g h1 h2 e => by have := r.h0; have := r.h1; have := r.h2; have := r.h3; have := r.h4; have := r.h5; omega), h.m4.keep q (fun g h1 h2 e => by have := r.h0; have := r.h1; have := r.h2; have := r.h3; have := r.h4; have := r.h5; omega), (h.m5.head k hk).keep q (fun g h1 h2 e => by have := r.h0; have := r.h1; have := r.h2; have := r.h3; have := r.h4; have := r.h5; omega), h.m6.keep q (fun g h1 h2 e => by have := r.h0; have := r.h1; have := r.h2; have := r.h3; have := r.h4; have := r.h5; omega), h.keep.trans q (fun g e => .inr (by have := h.low; omega)), h.low⟩
theorem W6.turn7 (h : W6 r w0 w a b c v1 v2 v3 v4 v5 v6 chars things mobs houses lots tills) (q : Keep (fun g => r.c5 ≤ g ∧ g < r.c6) w w') (m : Mine eLot 67 r.c5 r.c6 w' v5 lots') : W6 r w0 w' a b c v1 v2 v3 v4 v5 v6 chars things mobs houses lots' tills :=
  ⟨(q.block _ (lt_of_block h.box) (by have := r.h0; have := r.h1; have := r.h2; have := r.h3; have := r.h4; have := r.h5; omega)).trans h.box, h.m1.keep q (fun g h1 h2 e => by have := r.h0; have := r.h1; have := r.h2; have := r.h3; have := r.h4; have := r.h5; omega), h.m2.keep q (fun g h1 h2 e => by have := r.h0; have := r.h1; have := r.h2; have := r.h3; have := r.h4; have := r.h5; omega), h.m3.keep q (fun g h1 h2 e => by have := r.h0; have := r.h1; have := r.h2; have := r.h3; have := r.h4; have := r.h5; omega), h.m4.keep q (fun g h1 h2 e => by have := r.h0; have := r.h1; have := r.h2; have := r.h3; have := r.h4; have := r.h5; omega), m, h.m6.keep q (fun g h1 h2 e => by have := r.h0; have := r.h1; have := r.h2; have := r.h3; have := r.h4; have := r.h5; omega), h.keep.trans q (fun g e => .inr (by have := h.low; have := r.h0; have := r.h1; have := r.h2; have := r.h3; have := r.h4; have := r.h5; omega)), h.low⟩
theorem W6.cut8 {ad : Option Addr} {n cap : Nat} (h : W6 r w0 w a b c v1 v2 v3 v4 v5 (.slice ad n cap) chars things mobs houses lots tills) (k : Nat) (hk : k < tills.length) : W6 r w0 (w.setCell ⟨r.B, 8, none⟩ (.slice ad k cap)) a b c v1 v2 v3 v4 v5 (.slice ad k cap) chars things mobs houses lots (tills.take k) := by
  have q : Keep (fun b => b = r.B) w (w.setCell ⟨r.B, 8, none⟩ (.slice ad k cap)) := (Keep.refl _ w).setCell _ _ (.inl rfl)
  exact ⟨(heap_setCell_at _ h.box).trans rfl, h.m1.keep q (fun g h1 h2 e => by have := r.h0; have := r.h1; have := r.h2; have := r.h3; have := r.h4; have := r.h5; omega), h.m2.keep q (fun g h1 h2 e => by have := r.h0; have := r.h1; have := r.h2; have := r.h3; have := r.h4; have := r.h5; omega), h.m3.keep q (fun g h1 h2 e => by have := r.h0; have := r.h1; have := r.h2; have := r.h3; have := r.h4; have := r.h5; omega), h.m4.keep q (fun g h1 h2 e => by have := r.h0; have := r.h1; have := r.h2; have := r.h3; have := r.h4; have := r.h5; omega), h.m5.keep q (fun g h1 h2 e => by have := r.h0; have := r.h1; have := r.h2; have := r.h3; have := r.h4; have := r.h5; omega), (h.m6.head k hk).keep q (fun g h1 h2 e => by have := r.h0; have := r.h1; have := r.h2; have := r.h3; have := r.h4; have := r.h5; omega), h.keep.trans q (fun g e => .inr (by have := h.low; omega)), h.low⟩
theorem W6.turn8 (h : W6 r w0 w a b c v1 v2 v3 v4 v5 v6 chars things mobs houses lots tills) (q : Keep (fun g => r.c6 ≤ g ∧ g < r.c7) w w') (m : Mine eTill 81 r.c6 r.c7 w' v6 tills') : W6 r w0 w' a b c v1 v2 v3 v4 v5 v6 chars things mobs houses lots tills' :=
  ⟨(q.block _ (lt_of_block h.box) (by have := r.h0; have := r.h1; have := r.h2; have := r.h3; have := r.h4; have := r.h5; omega)).trans h.box, h.m1.keep q (fun g h1 h2 e => by have := r.h0; have := r.h1; have := r.h2; have := r.h3; have := r.h4; have := r.h5; omega), h.m2.keep q (fun g h1 h2 e => by have := r.h0; have := r.h1; have := r.h2; have := r.h3; have := r.h4; have := r.h5; omega), h.m3.keep q (fun g h1 h2 e => by have := r.h0; have := r.h1; have := r.h2; have := r.h3; have := r.h4; have := r.h5; omega), h.m4.keep q (fun g h1 h2 e => by have := r.h0; have := r.h1; have := r.h2; have := r.h3; have := r.h4; have := r.h5; omega), h.m5.keep q (fun g h1 h2 e => by have := r.h0; have := r.h1; have := r.h2; have := r.h3; have := r.h4; have := r.h5; omega), m, h.keep.trans q (fun g e => .inr (by have := h.low; have := r.h0; have := r.h1; have := r.h2; have := r.h3; have := r.h4; have := r.h5; omega)), h.low⟩
theorem WAt.six {lo g : Nat} {x : MWorld} (h : WAt lo w g x) (hlo : w0.heap.size ≤ lo) (hk : Keep (fun _ => False) w0 w) : ∃ (r : Rng) (v1 v2 v3 v4 v5 v6 : Value), g = r.B ∧ W6 r w0 w x.1 x.2.1 x.2.2.1 v1 v2 v3 v4 v5 v6 x.2.2.2.1 x.2.2.2.2.1 x.2.2.2.2.2.1 x.2.2.2.2.2.2.1 x.2.2.2.2.2.2.2.1 x.2.2.2.2.2.2.2.2 := by
  obtain ⟨c1, c2, c3, c4, c5, c6, c7, v1, v2, v3, v4, v5, v6, hg, b0, b1, b2, b3, b4, b5, b6, b7, m1, m2, m3, m4, m5, m6⟩ := h.ex
  exact ⟨⟨g, c1, c2, c3, c4, c5, c6, c7, b1, b2, b3, b4, b5, b6, b7⟩, v1, v2, v3, v4, v5, v6, rfl, hg, m1, m3, m4, m2, m5, m6, hk, Nat.le_trans hlo b0⟩
theorem W6.pat (h : W6 r w0 w a b c v1 v2 v3 v4 v5 v6 chars things mobs houses lots tills) : PAt eWorld (fun g => w0.heap.size ≤ g) w (.pointer (some ⟨r.B, 0, none⟩)) (a, b, c, chars, things, mobs, houses, lots, tills) := by
  have := h.low; have := r.h0; have := r.h1; have := r.h2; have := r.h3; have := r.h4; have := r.h5
  refine ⟨r.B, 0, _, rfl, lt_of_block h.box, h.low, ⟨v1, v2, v3, v4, v5, v6, h.m1.at.mono ?_, h.m2.at.mono ?_, h.m3.at.mono ?_, h.m4.at.houses.mono ?_, h.m5.at.mono ?_, h.m6.at.mono ?_, rfl⟩, rangeAt_block2 h.box rfl⟩ <;> exact fun b _ hb => by omega
end

/-- A list that is gone through, thing by thing: those ahead are small. -/
structure CtL {M : Type} (E : El M) (ty : TypeId) (lo hi : Nat) (P S : M → Prop) (w0 : World) (v : Value) (n : Nat) (i : Value) (wr : World) : Prop where
  ex : ∃ (k : Nat) (l : List M), k ≤ n ∧ i = .int .i64 (k : Int) ∧ l.length = n ∧ Mine E ty lo hi wr v l ∧ (∀ d ∈ l, P d) ∧ (∀ (j : Nat) (x : M), l[j]? = some x → j < k → S x) ∧ Keep (fun g => lo ≤ g ∧ g < hi) w0 wr

theorem CtL.step {M : Type} {E : El M} {ty : TypeId} {lo hi : Nat} {P S : M → Prop} {w0 wr w' : World} {v : Value} {n k : Nat} {l : List M} (hk : k < n) (hl : l.length = n) (hP : ∀ d ∈ l, P d) (hS : ∀ (j : Nat) (x : M), l[j]? = some x → j < k → S x) (hK : Keep (fun g => lo ≤ g ∧ g < hi) w0 wr)
    (y : M) (hm : Mine E ty lo hi w' v (l.set k y)) (hK2 : Keep (fun g => lo ≤ g ∧ g < hi) wr w') (py : P y) (sy : S y) {z : Int} (hz : z = (k : Int) + 1) : CtL E ty lo hi P S w0 v n (.int .i64 z) w' := by
  refine ⟨k + 1, l.set k y, hk, by rw [hz, Int.natCast_add]; rfl, by simpa using hl, hm, fun d hd => ?_, fun j x hj hjk => ?_, hK.trans hK2 (fun g e => .inl e)⟩
  · rcases List.mem_or_eq_of_mem_set hd with h | rfl
    · exact hP d h
    · exact py
  · rw [List.getElem?_set] at hj
    by_cases hq : k = j
    · subst hq
      rw [if_pos rfl, if_pos (by omega)] at hj
      simp only [Option.some.injEq] at hj
      subst hj
      exact sy
    · rw [if_neg hq] at hj
      exact hS j x hj (by omega)

end Go.Proofs.Ytpefkellcigpkaa.Cd
/- codec: guests that are written, wherever they lie. -/
namespace Go.Proofs.Ytpefkellcigpkaa.Cd
open Go.RowKit Go.Deep Go.Proofs.Ytpefkellcigpkaa
set_option maxRecDepth 100000

theorem strings_of : ∀ xs : List Value, (∀ c ∈ xs, ∃ s, c = Value.string s) → ∃ l : List ByteArray, xs = l.map Value.string
  | [], _ => ⟨[], rfl⟩
  | c :: xs, h => by
    obtain ⟨s, hs⟩ := h c (by simp)
    obtain ⟨l, hl⟩ := strings_of xs (fun d hd => h d (by simp [hd]))
    exact ⟨s :: l, by rw [hs, hl]; rfl⟩

theorem GR.poke {Pb : Nat → Prop} {w : World} {v : Value} {l : List ByteArray} (h : GR Pb w v l) (b o : Nat) (s : ByteArray) :
    ∃ l', GR Pb (w.setCell ⟨b, o, none⟩ (.string s)) v l' ∧ l'.length = l.length ∧ ∀ (q : Nat) (t : ByteArray), l'[q]? = some t → t = s ∨ l[q]? = some t := by
  obtain ⟨xs, h1, h2, h3⟩ := Row.poke h.1 b o (.string s)
  obtain ⟨l', rfl⟩ := strings_of xs (fun c hc => by
    obtain ⟨i, hi⟩ := List.mem_iff_getElem?.1 hc
    rcases h3 i c hi with h9 | h9
    · exact ⟨s, h9⟩
    · rw [List.getElem?_map] at h9
      obtain ⟨t, _, ht⟩ := Option.map_eq_some_iff.1 h9
      exact ⟨t, ht.symm⟩)
  have hl : l'.length = l.length := by simpa using h2
  refine ⟨l', ⟨by rw [hl]; exact h1, h.2⟩, hl, fun q t ht => ?_⟩
  rcases h3 q (.string t) (by rw [List.getElem?_map, ht]; rfl) with h9 | h9
  · left; simpa using h9
  · right
    rw [List.getElem?_map] at h9
    obtain ⟨u, hu, hu2⟩ := Option.map_eq_some_iff.1 h9
    simp only [Value.string.injEq] at hu2
    rw [hu, hu2]

theorem GR.head {Pb : Nat → Prop} {w : World} {a : Option Addr} {n cap : Nat} {l : List ByteArray} (h : GR Pb w (.slice a n cap) l) (k : Nat) (hk : k < n) : GR Pb w (.slice a k cap) (l.take k) := by
  have hn : n = l.length := by
    obtain ⟨_, _, hv, _⟩ := h.slice
    simp only [Value.slice.injEq] at hv
    exact hv.2.1
  subst hn
  have h1 := Row.head h.1 (Nat.le_of_lt hk) (by omega)
  have hl : (l.take k).length = k := by rw [List.length_take]; omega
  rw [Nat.mul_one, ← List.map_take] at h1
  exact ⟨by rw [hl]; exact h1, fun b e => h.2 b (own_len e)⟩

/-- One text of some house is written. -/
theorem Mine.poke {ty : TypeId} {lo hi : Nat} {w : World} {v : Value} {l : List MHouse} (h : Mine eHouseW ty lo hi w v l) (b o : Nat) (s : ByteArray) (hv : ¬ own v b) :
    ∃ l' : List MHouse, l'.length = l.length ∧ Mine eHouseW ty lo hi (w.setCell ⟨b, o, none⟩ (.string s)) v l' ∧ ∀ (i : Nat) (x' : MHouse), l'[i]? = some x' → ∃ x, l[i]? = some x ∧ x'.1 = x.1 ∧ x'.2.1 = x.2.1 ∧ x'.2.2.2 = x.2.2.2 ∧ x'.2.2.1.length = x.2.2.1.length ∧ ∀ (q : Nat) (t : ByteArray), x'.2.2.1[q]? = some t → t = s ∨ x.2.2.1[q]? = some t := by
  obtain ⟨css, h1, h2, h3, h4⟩ := h.ex
  have k : Keep (fun g => g = b) w (w.setCell ⟨b, o, none⟩ (.string s)) := (Keep.refl _ w).setCell _ _ (.inl rfl)
  have each : ∀ i, i < l.length → ∃ x' : MHouse, ∃ x cs, l[i]? = some x ∧ css[i]? = some cs ∧ eHouseW.H (fun g => (lo ≤ g ∧ g < hi) ∧ ¬ own v g) (w.setCell ⟨b, o, none⟩ (.string s)) x' cs ∧ x'.1 = x.1 ∧ x'.2.1 = x.2.1 ∧ x'.2.2.2 = x.2.2.2 ∧ x'.2.2.1.length = x.2.2.1.length ∧ ∀ (q : Nat) (t : ByteArray), x'.2.2.1[q]? = some t → t = s ∨ x.2.2.1[q]? = some t := by
    intro i hi
    obtain ⟨cs, c1, gv, hg, c2⟩ := h4 i _ (List.getElem?_eq_getElem hi)
    obtain ⟨g', e1, e2, e3⟩ := hg.poke b o s
    exact ⟨(l[i].1, l[i].2.1, g', l[i].2.2.2), l[i], cs, List.getElem?_eq_getElem hi, c1, ⟨gv, e1, c2⟩, rfl, rfl, rfl, e2, e3⟩
  obtain ⟨f, hf⟩ := choose_lt each
  have hl : ((List.range l.length).map f).length = l.length := by simp
  refine ⟨(List.range l.length).map f, hl, ⟨⟨css, by rw [hl]; exact h1.keep k (fun g e e2 => hv (by rw [← e2]; exact e)), by rw [hl]; exact h2, h3, fun i x hx => ?_⟩, h.new⟩, fun i x' hx => ?_⟩
  · have hi : i < l.length := by have := (List.getElem?_eq_some_iff.1 hx).1; simpa using this
    rw [List.getElem?_map, List.getElem?_range hi] at hx
    obtain rfl := Option.some.inj hx
    obtain ⟨x, cs, _, c1, c2, _⟩ := hf i hi
    exact ⟨cs, c1, c2⟩
  · have hi : i < l.length := by have := (List.getElem?_eq_some_iff.1 hx).1; simpa using this
    rw [List.getElem?_map, List.getElem?_range hi] at hx
    obtain rfl := Option.some.inj hx
    obtain ⟨x, cs, c0, _, _, c3⟩ := hf i hi
    exact ⟨x, c0, c3⟩

theorem CtL.next {M : Type} {E : El M} {ty : TypeId} {lo hi : Nat} {P S : M → Prop} {w0 w' : World} {v : Value} {n k : Nat} {l : List M} (hk : k < n) (hl : l.length = n) (hm : Mine E ty lo hi w' v l) (hP : ∀ d ∈ l, P d) (hS : ∀ (j : Nat) (x : M), l[j]? = some x → j < k → S x)
    (hk1 : ∀ x, l[k]? = some x → S x) (hK : Keep (fun g => lo ≤ g ∧ g < hi) w0 w') {z : Int} (hz : z = (k : Int) + 1) : CtL E ty lo hi P S w0 v n (.int .i64 z) w' := by
  refine ⟨k + 1, l, hk, by rw [hz, Int.natCast_add]; rfl, hl, hm, hP, fun j x hj hjk => ?_, hK⟩
  by_cases hq : j = k
  · subst hq; exact hk1 x hj
  · exact hS j x hj (by omega)

def sHouse (x : MHouse) : Prop := x.2.1.size ≤ 30 ∧ x.2.2.1.length ≤ 5 ∧ ∀ s ∈ x.2.2.1, s.size ≤ 30

/-- The houses, while the guests of the k-th are gone through: those ahead of the j-th are short. -/
structure GuS (r : Rng) (v : Value) (n k j : Nat) (w0 wx : World) (l : List MHouse) (y : MHouse) : Prop where
  len : l.length = n
  mine : Mine eHouseW 65 r.c2 r.c3 wx v l
  P : ∀ d ∈ l, rHouse d
  S : ∀ (j : Nat) (x : MHouse), l[j]? = some x → j < k → sHouse x
  keep : Keep (fun g => r.c2 ≤ g ∧ g < r.c3) w0 wx
  at_ : l[k]? = some y
  owner : y.2.1.size ≤ 30
  few : y.2.2.1.length ≤ 5
  small : ∀ (q : Nat) (s : ByteArray), y.2.2.1[q]? = some s → q < j → s.size ≤ 30

theorem GuS.drew {r : Rng} {v : Value} {n k j : Nat} {w0 wx : World} {l : List MHouse} {y : MHouse} (h : GuS r v n k j w0 wx l y) : GuS r v n k j w0 wx.drew l y :=
  ⟨h.len, h.mine.keep ((Keep.refl (fun _ => False) _).drew) (fun _ _ _ h => h), h.P, h.S, h.keep.drew, h.at_, h.owner, h.few, h.small⟩

theorem GuS.done {r : Rng} {v : Value} {n k m : Nat} {w0 wx : World} {l : List MHouse} {y : MHouse} (h : GuS r v n k m w0 wx l y) (hm : y.2.2.1.length = m) : ∀ x, l[k]? = some x → sHouse x := by
  intro x hx
  rw [h.at_] at hx
  obtain rfl := Option.some.inj hx
  refine ⟨h.owner, h.few, fun s hs => ?_⟩
  obtain ⟨q, hq⟩ := List.mem_iff_getElem?.1 hs
  exact h.small q s hq (by have := (List.getElem?_eq_some_iff.1 hq).1; omega)

/-- While guests are gone through. -/
structure GuR (r : Rng) (v : Value) (n k m : Nat) (w0 : World) (i : Value) (wq : World) : Prop where
  ex : ∃ (j : Nat) (l : List MHouse) (y : MHouse), j ≤ m ∧ i = .int .i64 (j : Int) ∧ y.2.2.1.length = m ∧ GuS r v n k j w0 wq l y

/-- A guest's name is cut. -/
theorem GuS.step {r : Rng} {n k j g1 o1 cap gb go cg : Nat} {w0 wx : World} {l : List MHouse} {y : MHouse} (h : GuS r (.slice (some ⟨g1, o1, none⟩) n cap) n k j w0 wx l y)
    (hc : wx.cell? ⟨g1, o1 + k * 4 + 2, none⟩ = some (.slice (some ⟨gb, go, none⟩) y.2.2.1.length cg)) (hb : r.c2 ≤ gb ∧ gb < r.c3) (hg : gb ≠ g1) (hj : j < y.2.2.1.length) (s : ByteArray) (hs : s.size ≤ 30)
    (hcell : (wx.setCell ⟨gb, go + j, none⟩ (.string s)).cell? ⟨gb, go + j, none⟩ = some (.string s)) :
    ∃ l' y', GuS r (.slice (some ⟨g1, o1, none⟩) n cap) n k (j + 1) w0 (wx.setCell ⟨gb, go + j, none⟩ (.string s)) l' y' ∧ y'.2.2.1.length = y.2.2.1.length := by
  obtain ⟨l', h1, h2, h3⟩ := h.mine.poke gb (go + j) s (fun e => hg (by simp only [own, Value.ownBlock, Option.some.injEq] at e; exact e.symm))
  have hk : k < l'.length := by have := (List.getElem?_eq_some_iff.1 h.at_).1; omega
  obtain ⟨y', hy'⟩ : ∃ y', l'[k]? = some y' := ⟨_, List.getElem?_eq_getElem hk⟩
  obtain ⟨y0, q0, q1, q2, q3, q4, q5⟩ := h3 k y' hy'
  rw [h.at_] at q0
  obtain rfl := Option.some.inj q0
  refine ⟨l', y', ⟨by rw [h1]; exact h.len, h2, fun d hd => ?_, fun i x hx hik => ?_, h.keep.setCell _ _ (.inl hb), hy', by rw [q2]; exact h.owner, by rw [q4]; exact h.few, fun q t ht hq => ?_⟩, q4⟩
  · obtain ⟨i, hi⟩ := List.mem_iff_getElem?.1 hd
    obtain ⟨x, a0, a1, a2, a3, _⟩ := h3 i d hi
    have := h.P x (List.mem_of_getElem? a0)
    unfold rHouse at this ⊢
    rw [a1, a3]; exact this
  · obtain ⟨x0, a0, a1, a2, a3, a4, a5⟩ := h3 i x hx
    obtain ⟨b1, b2, b3⟩ := h.S i x0 a0 hik
    refine ⟨by rw [a2]; exact b1, by rw [a4]; exact b2, fun t ht => ?_⟩
    obtain ⟨q, hq⟩ := List.mem_iff_getElem?.1 ht
    rcases a5 q t hq with rfl | h9
    · exact hs
    · exact b3 t (List.mem_of_getElem? h9)
  · by_cases hqj : q = j
    · subst hqj
      obtain ⟨cs, ⟨gv, hgr, hcs⟩, _, hcl, _⟩ := h2.cells k y' hy'
      subst hcs
      have e1 : (wx.setCell ⟨gb, go + q, none⟩ (.string s)).cell? ⟨g1, o1 + k * 4 + 2, none⟩ = some gv := by have := hcl 2 gv rfl; simpa [eHouseW] using this
      have e2 : (wx.setCell ⟨gb, go + q, none⟩ (.string s)).cell? ⟨g1, o1 + k * 4 + 2, none⟩ = some (.slice (some ⟨gb, go, none⟩) y.2.2.1.length cg) := by
        have kk : Keep (fun b => b = gb) wx (wx.setCell ⟨gb, go + q, none⟩ (.string s)) := (Keep.refl _ _).setCell _ _ (.inl rfl)
        rw [kk.cell (block_lt_of hc) (fun e => hg e.symm)]; exact hc
      obtain rfl := Option.some.inj (e1.symm.trans e2)
      have hlen : y.2.2.1.length = y'.2.2.1.length := q4.symm
      have h9 := hgr.1
      rw [hlen] at h9
      have h8 := h9.cellAt q (by omega)
      rw [hcell, List.getElem?_map, ht] at h8
      simp only [Option.map_some, Option.some.injEq, Value.string.injEq] at h8
      rw [← h8]; exact hs
    · rcases q5 q t ht with rfl | h9
      · exact hs
      · exact h.small q t h9 (by omega)
where block_lt_of {w : World} {g o : Nat} {v : Value} (h : w.cell? ⟨g, o, none⟩ = some v) : g < w.heap.size := World.block_lt_of_cell? _ _ h

end Go.Proofs.Ytpefkellcigpkaa.Cd
