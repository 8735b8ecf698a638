/- codec: a world of bounded lists: its bytes, how many they are; what the law's Cut answers. -/
import Derived.Test.YtpefkellcigpkaaCdW6
import Derived.Test.YtpefkellcigpkaaCdCut
import Derived.Test.YtpefkellcigpkaaCdI
namespace Go.Proofs.Ytpefkellcigpkaa.Cd
open Go.RowKit Go.Deep Go.Proofs.Ytpefkellcigpkaa
set_option maxRecDepth 100000

def sChar (x : MChar) : Prop := x.1.size ≤ 30 ∧ x.2.1.size ≤ 70 ∧ x.2.2.2.2.2.2.2.2.2.length ≤ 8
def sThing (x : MThing) : Prop := x.2.2.2.2.size ≤ 30
def sLot (x : MLot) : Prop := x.2.2.1.size ≤ 30 ∧ x.2.2.2.2.2.1.size ≤ 30

/-- A world of bounded lists. -/
structure SmallW (x : MWorld) : Prop where
  now : okN x.1
  next : okN x.2.1
  minted : okN x.2.2.1
  chars : x.2.2.2.1.length ≤ 6 ∧ ∀ d ∈ x.2.2.2.1, rChar d ∧ sChar d
  things : x.2.2.2.2.1.length ≤ 12 ∧ ∀ d ∈ x.2.2.2.2.1, rThing d ∧ sThing d
  mobs : x.2.2.2.2.2.1.length ≤ 8 ∧ ∀ d ∈ x.2.2.2.2.2.1, rMob d
  houses : x.2.2.2.2.2.2.1.length ≤ 5 ∧ ∀ d ∈ x.2.2.2.2.2.2.1, rHouse d ∧ sHouse d
  lots : x.2.2.2.2.2.2.2.1.length ≤ 5 ∧ ∀ d ∈ x.2.2.2.2.2.2.2.1, rLot d ∧ sLot d
  tills : x.2.2.2.2.2.2.2.2.length ≤ 5 ∧ ∀ d ∈ x.2.2.2.2.2.2.2.2, rTill d

structure CutA (w : World) (e : Ending) (w' : World) : Prop where
  ex : ∃ (g : Nat) (x : MWorld), e = .returned (.pointer (some ⟨g, 0, none⟩)) ∧ PAt eWorld (fun b => w.heap.size ≤ b) w' (.pointer (some ⟨g, 0, none⟩)) x ∧ SmallW x ∧ Keep (fun _ => False) w w'

/-- What the law's Cut does. -/
def CutSpec : Prop := ∀ {w : World} {x : MWorld} {cs : List Value}, eWorld.H (fun b => b < w.heap.size) w x cs → wWorld x → Calls Try.prog 7 #[.agg cs.toArray] w (CutA w)

theorem lenN (n : Int) : (cN.enc n).length ≤ 9 := by
  show (encN n).length ≤ 9
  unfold encN
  split
  · simp
  · rw [List.length_cons, be_length]; have := sizeB_le (twist n); omega
theorem lenL (n : Nat) : (encL n).length ≤ 4 := by
  unfold encL
  split
  · simp
  · rw [be_length]; omega
theorem lenFlat {M : Type} (f : M → List UInt8) (k : Nat) : ∀ l : List M, (∀ x ∈ l, (f x).length ≤ k) → (l.flatMap f).length ≤ k * l.length
  | [], _ => by simp
  | x :: l, h => by
    rw [List.flatMap_cons, List.length_append, List.length_cons, Nat.mul_add]
    have := lenFlat f k l (fun y hy => h y (List.mem_cons_of_mem _ hy))
    have := h x List.mem_cons_self
    omega
theorem lenT (s : ByteArray) : (cT.enc s).length ≤ 4 + s.size := by
  show (encL s.size ++ s.data.toList).length ≤ _
  rw [List.length_append]
  have := lenL s.size
  have : s.data.toList.length = s.size := by rw [Array.length_toList]; rfl
  omega
theorem lenB (b : Bool) : (cB.enc b).length ≤ 1 := by show [_].length ≤ 1; simp
theorem lenP {α β : Type} (A : Cod α) (B : Cod β) (x : α × β) {m n : Nat} (h1 : (A.enc x.1).length ≤ m) (h2 : (B.enc x.2).length ≤ n) : ((pair A B).enc x).length ≤ m + n := by
  show (A.enc x.1 ++ B.enc x.2).length ≤ _
  rw [List.length_append]; omega
theorem lenList {α : Type} (A : Cod α) (l : List α) {k m : Nat} (hm : l.length ≤ m) (h : ∀ x ∈ l, (A.enc x).length ≤ k) : ((cList A).enc l).length ≤ 4 + k * m := by
  show (encL l.length ++ l.flatMap A.enc).length ≤ _
  rw [List.length_append]
  have h1 := lenL l.length
  have h2 := lenFlat A.enc k l h
  have h3 : k * l.length ≤ k * m := Nat.mul_le_mul_left k hm
  omega
theorem lenT' {s : ByteArray} {n : Nat} (h : s.size ≤ n) : (cT.enc s).length ≤ 4 + n := by have := lenT s; omega

theorem SmallW.len {x : MWorld} (h : SmallW x) : (cWorld.enc x).length ≤ 100000 := by
  obtain ⟨now, next, minted, chars, things, mobs, houses, lots, tills⟩ := x
  have e1 := lenList cChar chars h.chars.1 (k := 1000) (fun x hx => by
    obtain ⟨a, b, c⟩ := (h.chars.2 x hx).2
    have := lenP cT _ x (lenT' a) (lenP cT _ x.2 (lenT' b) (lenP cB _ x.2.2 (lenB _) (lenP cN _ x.2.2.2 (lenN _) (lenP cN _ x.2.2.2.2 (lenN _) (lenP cN _ x.2.2.2.2.2 (lenN _) (lenP cN _ x.2.2.2.2.2.2 (lenN _) (lenP cN _ x.2.2.2.2.2.2.2 (lenN _) (lenP cN (cList cN) x.2.2.2.2.2.2.2.2 (lenN _) (lenList cN _ c (fun y _ => lenN y))))))))))
    exact Nat.le_trans this (by decide))
  have e2 := lenList cThing things h.things.1 (k := 1000) (fun x hx => by
    have a := (h.things.2 x hx).2
    have := lenP cN _ x (lenN _) (lenP cN _ x.2 (lenN _) (lenP cN _ x.2.2 (lenN _) (lenP cN cT x.2.2.2 (lenN _) (lenT' a))))
    exact Nat.le_trans this (by decide))
  have e3 := lenList cMob mobs h.mobs.1 (k := 1000) (fun x hx => by
    have := lenP cN _ x (lenN _) (lenP cN _ x.2 (lenN _) (lenP cN cN x.2.2 (lenN _) (lenN _)))
    exact Nat.le_trans this (by decide))
  have e4 := lenList cHouse houses h.houses.1 (k := 1000) (fun x hx => by
    obtain ⟨a, b, c⟩ := (h.houses.2 x hx).2
    have := lenP cN _ x (lenN _) (lenP cT _ x.2 (lenT' a) (lenP (cList cT) cN x.2.2 (lenList cT _ b (fun y hy => lenT' (c y hy))) (lenN _)))
    exact Nat.le_trans this (by decide))
  have e5 := lenList cLot lots h.lots.1 (k := 1000) (fun x hx => by
    obtain ⟨a, b⟩ := (h.lots.2 x hx).2
    have := lenP cN _ x (lenN _) (lenP cN _ x.2 (lenN _) (lenP cT _ x.2.2 (lenT' a) (lenP cN _ x.2.2.2 (lenN _) (lenP cN _ x.2.2.2.2 (lenN _) (lenP cT cN x.2.2.2.2.2 (lenT' b) (lenN _))))))
    exact Nat.le_trans this (by decide))
  have e6 := lenList cTill tills h.tills.1 (k := 1000) (fun x hx => by
    have := lenP cN cN x (lenN _) (lenN _)
    exact Nat.le_trans this (by decide))
  have := lenP cN _ (now, next, minted, chars, things, mobs, houses, lots, tills) (lenN _) (lenP cN _ (next, minted, chars, things, mobs, houses, lots, tills) (lenN _) (lenP cN _ (minted, chars, things, mobs, houses, lots, tills) (lenN _) (lenP (cList cChar) _ (chars, things, mobs, houses, lots, tills) e1 (lenP (cList cThing) _ (things, mobs, houses, lots, tills) e2 (lenP (cList cMob) _ (mobs, houses, lots, tills) e3 (lenP (cList cHouse) _ (houses, lots, tills) e4 (lenP (cList cLot) (cList cTill) (lots, tills) e5 e6)))))))
  exact Nat.le_trans this (by decide)

theorem okT' {s : ByteArray} {n : Nat} (h : s.size ≤ n) (hn : n < 1000) : cT.ok s := show s.size < 2147483648 by omega
theorem okList {α : Type} {A : Cod α} {l : List α} {n : Nat} (hl : l.length ≤ n) (hn : n < 1000) (h : ∀ x ∈ l, A.ok x) : (cList A).ok l := ⟨by omega, h⟩

theorem SmallW.okW {x : MWorld} (h : SmallW x) : cWorld.ok x := by
  obtain ⟨now, next, minted, chars, things, mobs, houses, lots, tills⟩ := x
  refine ⟨h.now, h.next, h.minted, okList h.chars.1 (by omega) (fun x hx => ?_), okList h.things.1 (by omega) (fun x hx => ?_), okList h.mobs.1 (by omega) (fun x hx => h.mobs.2 x hx), okList h.houses.1 (by omega) (fun x hx => ?_), okList h.lots.1 (by omega) (fun x hx => ?_), okList h.tills.1 (by omega) (fun x hx => h.tills.2 x hx)⟩
  · obtain ⟨r, a, b, c⟩ := h.chars.2 x hx
    obtain ⟨r1, r2, r3, r4, r5, r6, r7⟩ := r
    exact ⟨okT' a (by omega), okT' b (by omega), trivial, r1, r2, r3, r4, r5, r6, okList c (by omega) r7⟩
  · obtain ⟨r, a⟩ := h.things.2 x hx
    exact ⟨r.1, r.2.1, r.2.2.1, r.2.2.2, okT' a (by omega)⟩
  · obtain ⟨r, a, b, c⟩ := h.houses.2 x hx
    exact ⟨r.1, okT' a (by omega), okList b (by omega) (fun y hy => okT' (c y hy) (by omega)), r.2⟩
  · obtain ⟨r, a, b⟩ := h.lots.2 x hx
    exact ⟨r.1, r.2.1, okT' a (by omega), r.2.2.1, r.2.2.2.1, okT' b (by omega), r.2.2.2.2⟩

theorem SmallE.len2 {x : MEvent} (h : SmallE x) : (cEvent.enc x).length ≤ 100000 := by
  obtain ⟨k, s, t, l⟩ := x
  have h1 := h.name
  have h2 := h.text
  have h3 := h.dice
  simp only at h1 h2 h3
  have := lenP cN _ (k, s, t, l) (lenN _) (lenP cT _ (s, t, l) (lenT' h1) (lenP cT (cList cN) (t, l) (lenT' h2) (lenList cN _ h3 (fun y _ => lenN y))))
  exact Nat.le_trans this (by decide)
theorem SmallE.okV {x : MEvent} (h : SmallE x) : cEvent.ok x := by
  obtain ⟨k, s, t, l⟩ := x
  have h1 := h.name
  have h2 := h.text
  have h3 := h.dice
  simp only at h1 h2 h3
  exact ⟨h.ok, okT' h1 (by omega), okT' h2 (by omega), okList h3 (by omega) h.oks⟩

end Go.Proofs.Ytpefkellcigpkaa.Cd
/- codec: bytes of the law's own: cut, changed at one place. -/
namespace Go.Proofs.Ytpefkellcigpkaa.Cd
open Go.RowKit Go.Deep Go.Proofs.Ytpefkellcigpkaa
set_option maxRecDepth 100000

theorem Seen.front {w : World} {a : Option Addr} {n cap k : Nat} {l : List UInt8} (h : Seen w 1 (.slice a n cap) n (bcells l)) (hk : k ≤ n) : Seen w 1 (.slice a k cap) k (bcells (l.take k)) := by
  obtain ⟨h1, a', cap', hv, h2, h3, h4⟩ := h
  simp only [Value.slice.injEq] at hv
  obtain ⟨rfl, _, rfl⟩ := hv
  rw [bcells_length] at h1
  refine ⟨by rw [bcells_length, List.length_take]; omega, a, cap, rfl, by omega, h3, ?_⟩
  rcases h4 with h4 | ⟨g, off, ha, hg, hc⟩
  · left; omega
  · refine .inr ⟨g, off, ha, hg, fun j u hu => hc j u ?_⟩
    unfold bcells at hu ⊢
    rw [List.map_take, List.getElem?_take] at hu
    split at hu
    · exact hu
    · cases hu

section
variable {N : Nat → Prop} {w0 w w' : World} {v : Value} {bs : List UInt8}
theorem Out.since {w1 : World} (h : Out N w1 w v bs) (k : Keep N w0 w1) : Out N w0 w v bs :=
  ⟨h.row, k.trans h.keep (fun _ h => .inl h), fun b e => (h.new b e).imp id (fun h => Nat.le_trans k.size h)⟩
theorem Out.ofNil (k : Keep (fun _ => False) w0 w) : Out (fun _ => False) w0 w (.slice none 0 0) [] := ⟨Row.nil _ _ _, k, fun b e => by cases e⟩
theorem Out.front {a : Option Addr} {n cap k : Nat} (h : Out N w0 w (.slice a n cap) bs) (hk : k ≤ bs.length) (h0 : 0 < bs.length) : Out N w0 w (.slice a k cap) (bs.take k) := by
  obtain ⟨a', cap', hv, _, _⟩ := h.row.slice
  simp only [Value.slice.injEq] at hv
  obtain ⟨rfl, rfl, rfl⟩ := hv
  refine ⟨?_, h.keep, fun b e => h.new b (own_len e)⟩
  have := Row.head h.row hk h0
  rw [List.length_take, Nat.min_eq_left hk]
  rw [Nat.mul_one] at this
  unfold bcells at this ⊢
  rwa [List.map_take]
theorem Out.poked {g off n cap j : Nat} (h : Out N w0 w (.slice (some ⟨g, off, none⟩) n cap) bs) (d : UInt8) (hn : n = bs.length) :
    Out N w0 (w.setCell ⟨g, off + j, none⟩ (.int .u8 (d.toNat : Int))) (.slice (some ⟨g, off, none⟩) n cap) (bs.set j d) := by
  subst hn
  refine ⟨?_, h.keep.setCell _ _ (h.new g rfl), h.new⟩
  have := h.row.stored j (.int .u8 (d.toNat : Int))
  rw [List.length_set]
  have e : (bcells bs).set j (.int .u8 (d.toNat : Int)) = bcells (bs.set j d) := by unfold bcells; rw [List.map_set]
  rwa [← e]
theorem Out.full {w : World} (h : Out N w0 w v bs) (h0 : 0 < bs.length) : ∃ g off cap, v = .slice (some ⟨g, off, none⟩) bs.length cap := by
  obtain ⟨g, off, cap, hv, _⟩ := h.row.full h0
  exact ⟨g, off, cap, hv⟩
theorem Out.byte {g off n cap j : Nat} (h : Out N w0 w (.slice (some ⟨g, off, none⟩) n cap) bs) (hn : n = bs.length) (hj : j < n) :
    ∃ c : UInt8, w.cell? ⟨g, off + j, none⟩ = some (.int .u8 (c.toNat : Int)) ∧ w.frozen? ⟨g, off + j, none⟩ = false := by
  subst hn
  obtain ⟨_, cap', hv, h1, _⟩ := h.row.slice
  simp only [Value.slice.injEq] at hv
  obtain ⟨_, _, rfl⟩ := hv
  refine ⟨bs[j], ?_, (h.row.there j (by omega)).2⟩
  rw [h.row.cellAt j (by omega)]
  unfold bcells
  rw [List.getElem?_map, List.getElem?_eq_getElem hj]; rfl
end

theorem xor_u8 (a b : Int) : ∃ d : UInt8, bits .xor .u8 a b = (d.toNat : Int) := by
  refine ⟨UInt8.ofNat (bits .xor .u8 a b).toNat, ?_⟩
  have h : ∃ z : Int, bits .xor .u8 a b = z % 256 := ⟨_, rfl⟩
  obtain ⟨z, hz⟩ := h
  rw [hz]
  have : (z % 256).toNat < 256 := by omega
  rw [ofNat_small this]; omega

/-- Bytes that the round made. -/
structure OwnB (w0 : World) (m : Nat) (v : Value) (wx : World) : Prop where
  ex : ∃ bs : List UInt8, bs.length ≤ m ∧ Out (fun _ => False) w0 wx v bs

/-- What holds at a round's head. -/
structure ByR (w3 : World) (i : Value) (wr : World) : Prop where
  ex : ∃ k : Nat, k ≤ 2 ∧ i = .int .i64 (k : Int) ∧ Keep (fun _ => False) w3 wr

/-- At most so many first bytes of what was handed in. -/
structure Rest20 (w : World) (v : Value) (wx : World) : Prop where
  same : wx = w
  ex : ∃ rb : List UInt8, rb.length ≤ 20 ∧ Seen w 1 v rb.length (bcells rb)

end Go.Proofs.Ytpefkellcigpkaa.Cd
