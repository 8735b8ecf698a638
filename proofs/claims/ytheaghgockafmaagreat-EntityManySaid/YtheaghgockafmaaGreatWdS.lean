/- Lists of records in memory (no program): records whose cells are a function of what they are. -/
import Derived.Test.YtheaghgockafmaaGreatArgs
import Derived.Deep.MidRow
namespace Go.Proofs.YtheaghgockafmaaGreat.Wd
open Go.RowKit Go.Proofs.YtheaghgockafmaaGreat
set_option maxRecDepth 100000

/-- The cells of records, one behind the other. -/
def flat {α : Type} (f : α → List Value) (L : List α) : List Value := L.flatMap f

section
variable {α : Type} {f : α → List Value} {s : Nat}

theorem flat_nil : flat f [] = [] := rfl
theorem flat_cons (a : α) (L : List α) : flat f (a :: L) = f a ++ flat f L := rfl
theorem flat_append (L M : List α) : flat f (L ++ M) = flat f L ++ flat f M := by simp [flat]
theorem flat_one (a : α) : flat f [a] = f a := by simp [flat]

theorem flat_length (hs : ∀ a, (f a).length = s) : ∀ L : List α, (flat f L).length = L.length * s
  | [] => by simp [flat]
  | a :: L => by rw [flat_cons, List.length_append, hs, flat_length hs L, List.length_cons, Nat.add_mul, Nat.one_mul, Nat.add_comm]

theorem flat_get (hs : ∀ a, (f a).length = s) : ∀ (L : List α) (i j : Nat) (a : α), L[i]? = some a → j < s → (flat f L)[i * s + j]? = (f a)[j]?
  | [], _, _, _, h, _ => by simp at h
  | b :: L, 0, j, a, h, hj => by
    simp only [List.getElem?_cons_zero, Option.some.injEq] at h
    subst h
    rw [flat_cons, Nat.zero_mul, Nat.zero_add, List.getElem?_append_left (by rw [hs]; exact hj)]
  | b :: L, i + 1, j, a, h, hj => by
    rw [List.getElem?_cons_succ] at h
    rw [flat_cons, List.getElem?_append_right (by rw [hs, Nat.add_mul]; omega), hs, ← flat_get hs L i j a h hj]
    congr 1
    rw [Nat.add_mul]; omega

theorem flat_set (hs : ∀ a, (f a).length = s) : ∀ (L : List α) (i j : Nat) (a b : α) (u : Value), L[i]? = some a → j < s → f b = (f a).set j u → (flat f L).set (i * s + j) u = flat f (L.set i b)
  | [], _, _, _, _, _, h, _, _ => by simp at h
  | c :: L, 0, j, a, b, u, h, hj, hb => by
    simp only [List.getElem?_cons_zero, Option.some.injEq] at h
    subst h
    rw [flat_cons, List.set_cons_zero, flat_cons, Nat.zero_mul, Nat.zero_add, List.set_append_left _ _ (by rw [hs]; exact hj), hb]
  | c :: L, i + 1, j, a, b, u, h, hj, hb => by
    rw [List.getElem?_cons_succ] at h
    rw [flat_cons, List.set_cons_succ, flat_cons, List.set_append_right _ _ (by rw [hs, Nat.add_mul]; omega), hs, ← flat_set hs L i j a b u h hj hb]
    congr 2
    rw [Nat.add_mul]; omega

theorem flat_take (hs : ∀ a, (f a).length = s) : ∀ (L : List α) (k : Nat), flat f (L.take k) = (flat f L).take (k * s)
  | [], k => by simp [flat]
  | a :: L, 0 => by simp [flat]
  | a :: L, k + 1 => by
    rw [List.take_succ_cons, flat_cons, flat_cons, flat_take hs L k, List.take_append, hs, Nat.add_mul, Nat.one_mul, show k * s + s - s = k * s by omega, List.take_of_length_le (l := f a) (by rw [hs]; omega)]

theorem flat_drop (hs : ∀ a, (f a).length = s) : ∀ (L : List α) (k : Nat), flat f (L.drop k) = (flat f L).drop (k * s)
  | [], k => by simp [flat]
  | a :: L, 0 => by simp
  | a :: L, k + 1 => by
    rw [List.drop_succ_cons, flat_cons, flat_drop hs L k, List.drop_append, hs, Nat.add_mul, Nat.one_mul, show k * s + s - s = k * s by omega, show (f a).drop (k * s + s) = [] from List.drop_of_length_le (by rw [hs]; omega)]; simp

/-- A slice of records that may be written. -/
def Rec (w : World) (t : TypeId) (f : α → List Value) (s : Nat) (v : Value) (L : List α) : Prop := Row w t s v L.length (flat f L)

theorem Rec.row {w : World} {t : TypeId} {v : Value} {L : List α} (h : Rec w t f s v L) : Row w t s v L.length (flat f L) := h
theorem Rec.slice {w : World} {t : TypeId} {v : Value} {L : List α} (h : Rec w t f s v L) : ∃ a cap, v = .slice a L.length cap ∧ L.length ≤ cap ∧ cap ≤ maxLen := h.row.slice
theorem Rec.keep {F : Nat → Prop} {w w' : World} {t : TypeId} {v : Value} {L : List α} (h : Rec w t f s v L) (k : Keep F w w') (hF : ∀ b, v.ownBlock = some b → ¬ F b) : Rec w' t f s v L := Row.keep h k hF
theorem Rec.some {w : World} {t : TypeId} {a : Option Addr} {n cap : Nat} {L : List α} (h : Rec w t f s (.slice a n cap) L) {i : Nat} {x : α} (hi : L[i]? = .some x) : ∃ g off, a = .some ⟨g, off, none⟩ ∧ g < w.heap.size := by
  have hl := (List.getElem?_eq_some_iff.1 hi).1
  obtain ⟨g, off, c, hv, _⟩ := h.row.full (by omega)
  simp only [Value.slice.injEq] at hv
  obtain ⟨rfl, _, rfl⟩ := hv
  exact ⟨g, off, rfl, h.row.lt rfl⟩

theorem Rec.cell {w : World} {t : TypeId} {g off n cap : Nat} {L : List α} (h : Rec w t f s (.slice (.some ⟨g, off, none⟩) n cap) L) (hs : ∀ a, (f a).length = s) (i j : Nat) (a : α) (hi : L[i]? = .some a) (hj : j < s) :
    w.cell? ⟨g, off + (i * s + j), none⟩ = (f a)[j]? := by
  have hn : n = L.length := by
    obtain ⟨_, _, hv, _⟩ := h.slice
    simp only [Value.slice.injEq] at hv; exact hv.2.1
  subst hn
  have hl := (List.getElem?_eq_some_iff.1 hi).1
  have := Nat.mul_le_mul_right s (show i + 1 ≤ L.length by omega)
  rw [Nat.add_mul] at this
  rw [h.row.cellAt (i * s + j) (by omega), flat_get hs L i j a hi hj]

/-- All cells of one record. -/
theorem Rec.range {w : World} {t : TypeId} {g off n cap : Nat} {L : List α} (h : Rec w t f s (.slice (.some ⟨g, off, none⟩) n cap) L) (hs : ∀ a, (f a).length = s) (i : Nat) (a : α) (hi : L[i]? = .some a) :
    w.rangeAt g (off + i * s) (f a) := fun j u hu => by
  have hj : j < s := by rw [← hs a]; exact (List.getElem?_eq_some_iff.1 hu).1
  rw [Nat.add_assoc, h.cell hs i j a hi hj, hu]

theorem Rec.free {w : World} {t : TypeId} {g off n cap : Nat} {L : List α} (h : Rec w t f s (.slice (.some ⟨g, off, none⟩) n cap) L) (i j : Nat) (hi : i < L.length) (hj : j < s) :
    w.frozen? ⟨g, off + (i * s + j), none⟩ = false := by
  obtain ⟨_, _, hv, hc, _⟩ := h.slice
  simp only [Value.slice.injEq] at hv
  obtain ⟨_, rfl, rfl⟩ := hv
  have h1 := Nat.mul_le_mul_right s (show i + 1 ≤ cap by omega)
  rw [Nat.add_mul] at h1
  exact (h.row.there (i * s + j) (by omega)).2

theorem Rec.stored {w : World} {t : TypeId} {g off n cap : Nat} {L : List α} (h : Rec w t f s (.slice (.some ⟨g, off, none⟩) n cap) L) (hs : ∀ a, (f a).length = s) (i j : Nat) (a b : α) (u : Value) (hi : L[i]? = .some a) (hj : j < s) (hb : f b = (f a).set j u) :
    Rec (w.setCell ⟨g, off + (i * s + j), none⟩ u) t f s (.slice (.some ⟨g, off, none⟩) n cap) (L.set i b) := by
  have hn : n = L.length := by
    obtain ⟨_, _, hv, _⟩ := h.slice
    simp only [Value.slice.injEq] at hv; exact hv.2.1
  subst hn
  have h2 := h.row.stored (i * s + j) u
  rw [flat_set hs L i j a b u hi hj hb] at h2
  unfold Rec
  rw [List.length_set]
  exact h2
end

/-- A list of numbers (read alone). -/
def icells (l : List Int) : List Value := l.map fun n => Value.int .i64 n
theorem icells_length (l : List Int) : (icells l).length = l.length := by simp [icells]
theorem icells_get {l : List Int} {k : Nat} {n : Int} (h : l[k]? = some n) : (icells l)[k]? = some (.int .i64 n) := by simp [icells, h]
theorem icells_append (l m : List Int) : icells (l ++ m) = icells l ++ icells m := by simp [icells]
theorem icells_flat (l : List Int) : icells l = flat (fun n => [Value.int .i64 n]) l := by simp [icells, flat]; induction l <;> simp_all

end Go.Proofs.YtheaghgockafmaaGreat.Wd
/- Records of worlds and tables, as data (no program). -/
namespace Go.Proofs.YtheaghgockafmaaGreat.Wd
open Go.RowKit Go.Proofs.YtheaghgockafmaaGreat
set_option maxRecDepth 100000

/-- The first place at which p holds; -1: none. -/
def findI {α : Type} (p : α → Bool) : List α → Int
  | [] => -1
  | a :: L => if p a then 0 else match findI p L with | .negSucc n => .negSucc n | .ofNat n => .ofNat (n + 1)

theorem findI_cases {α : Type} (p : α → Bool) : ∀ L : List α, (findI p L = -1 ∧ ∀ (j : Nat) (a : α), L[j]? = some a → p a = false) ∨ ∃ (k : Nat) (a : α), findI p L = (k : Int) ∧ L[k]? = some a ∧ p a = true ∧ ∀ (j : Nat) (b : α), j < k → L[j]? = some b → p b = false
  | [] => .inl ⟨rfl, by simp⟩
  | a :: L => by
    by_cases h : p a = true
    · exact .inr ⟨0, a, by rw [findI, if_pos h]; rfl, rfl, h, fun j b hj => by omega⟩
    · have hf : p a = false := by simpa using h
      rcases findI_cases p L with ⟨h1, h2⟩ | ⟨k, b, h1, h2, h3, h4⟩
      · refine .inl ⟨by rw [findI, if_neg h, h1]; rfl, fun j b hb => ?_⟩
        cases j with
        | zero => simp at hb; subst hb; exact hf
        | succ j => exact h2 j b (by simpa using hb)
      · refine .inr ⟨k + 1, b, by rw [findI, if_neg h, h1]; rfl, by simpa using h2, h3, fun j c hj hc => ?_⟩
        cases j with
        | zero => simp at hc; subst hc; exact hf
        | succ j => exact h4 j c (by omega) (by simpa using hc)

theorem findI_at {α : Type} {p : α → Bool} {L : List α} {k : Nat} {a : α} (h : ∀ (j : Nat) (b : α), j < k → L[j]? = some b → p b = false) (hk : L[k]? = some a) (hp : p a = true) : findI p L = (k : Int) := by
  rcases findI_cases p L with ⟨_, h2⟩ | ⟨k', a', h1, h2, h3, h4⟩
  · rw [h2 k a hk] at hp; cases hp
  · rcases Nat.lt_trichotomy k' k with h5 | h5 | h5
    · rw [h k' a' h5 h2] at h3; cases h3
    · rw [h1, h5]
    · rw [h4 k a h5 hk] at hp; cases hp

theorem findI_none {α : Type} {p : α → Bool} {L : List α} (h : ∀ (j : Nat) (b : α), L[j]? = some b → p b = false) : findI p L = -1 := by
  rcases findI_cases p L with ⟨h1, _⟩ | ⟨k, a, _, h2, h3, _⟩
  · exact h1
  · rw [h k a h2] at h3; cases h3

/-- The places at which p holds, from k on. -/
def places {α : Type} (p : α → Bool) : Nat → List α → List Int
  | _, [] => []
  | k, a :: L => if p a then (k : Int) :: places p (k + 1) L else places p (k + 1) L
theorem places_append {α : Type} (p : α → Bool) : ∀ (L M : List α) (k : Nat), places p k (L ++ M) = places p k L ++ places p (k + L.length) M
  | [], M, k => by simp [places]
  | a :: L, M, k => by
    rw [List.cons_append, places, places, places_append p L M (k + 1), List.length_cons, show k + 1 + L.length = k + (L.length + 1) by omega]
    split <;> simp
theorem places_take {α : Type} {p : α → Bool} {L : List α} {k : Nat} {a : α} (h : L[k]? = some a) : places p 0 (L.take (k + 1)) = places p 0 (L.take k) ++ (if p a then [(k : Int)] else []) := by
  have hl := (List.getElem?_eq_some_iff.1 h).1
  rw [List.take_add_one, h, Option.toList_some, places_append, List.length_take, Nat.min_eq_left (by omega), Nat.zero_add, places, places]
theorem places_len {α : Type} (p : α → Bool) : ∀ (L : List α) (k : Nat), (places p k L).length ≤ L.length
  | [], _ => by simp [places]
  | a :: L, k => by rw [places]; have := places_len p L (k + 1); split <;> simp <;> omega
theorem places_mem {α : Type} (p : α → Bool) : ∀ (L : List α) (k : Nat) (n : Int), n ∈ places p k L → ∃ (j : Nat) (a : α), n = ((k + j : Nat) : Int) ∧ L[j]? = some a ∧ p a = true
  | [], _, n, h => by simp [places] at h
  | a :: L, k, n, h => by
    rw [places] at h
    have hr : n ∈ places p (k + 1) L → ∃ (j : Nat) (b : α), n = ((k + j : Nat) : Int) ∧ (a :: L)[j]? = some b ∧ p b = true := fun h => by
      obtain ⟨j, b, h1, h2, h3⟩ := places_mem p L (k + 1) n h
      exact ⟨j + 1, b, by rw [h1]; congr 1; omega, by simpa using h2, h3⟩
    split at h
    · rename_i hp
      rcases List.mem_cons.1 h with h | h
      · exact ⟨0, a, by rw [h]; rfl, rfl, hp⟩
      · exact hr h
    · exact hr h

theorem sort_take {α : Type} {L : List α} {k : Nat} {x : α} (h : L[k]? = some x) : L.take (k + 1) = L.take k ++ [x] := by rw [List.take_add_one, h]; rfl

structure RoomM where
  id : Int
  name : ByteArray
  kind : Int
  price : Int
  e0 : Int
  e1 : Int
  e2 : Int
  e3 : Int
  e4 : Int
  e5 : Int
structure ProtoM where
  id : Int
  name : ByteArray
  slot : Int
  power : Int
  price : Int
structure MobPM where
  id : Int
  name : ByteArray
  home : Int
  hp : Int
  power : Int
  xp : Int
  gold : Int
structure RecM where
  out : Int
  needs : List Int
structure QuestM where
  id : Int
  item : Int
  count : Int
  gold : Int
  reward : Int
structure ShopM where
  room : Int
  till : Int
  items : List Int
structure DbM where
  rooms : List RoomM
  protos : List ProtoM
  mobs : List MobPM
  recs : List RecM
  quests : List QuestM
  shops : List ShopM

def roomC (x : RoomM) : List Value := [.int .i64 x.id, .string x.name, .int .i64 x.kind, .int .i64 x.price, .int .i64 x.e0, .int .i64 x.e1, .int .i64 x.e2, .int .i64 x.e3, .int .i64 x.e4, .int .i64 x.e5]
def protoC (x : ProtoM) : List Value := [.int .i64 x.id, .string x.name, .int .i64 x.slot, .int .i64 x.power, .int .i64 x.price]
def mobpC (x : MobPM) : List Value := [.int .i64 x.id, .string x.name, .int .i64 x.home, .int .i64 x.hp, .int .i64 x.power, .int .i64 x.xp, .int .i64 x.gold]
def recC (x : RecM × Value) : List Value := [.int .i64 x.1.out, x.2]
def questC (x : QuestM) : List Value := [.int .i64 x.id, .int .i64 x.item, .int .i64 x.count, .int .i64 x.gold, .int .i64 x.reward]
def shopC (x : ShopM × Value) : List Value := [.int .i64 x.1.room, .int .i64 x.1.till, x.2]

/-- The slice v reads as numbers. -/
def Ints (w : World) (v : Value) (l : List Int) : Prop := Seen w 1 v l.length (icells l) ∧ ∀ b, v.ownBlock = some b → ∃ cs f, w.heap[b]? = some (.cells cs 3 f)
theorem Ints.of_row {w : World} {v : Value} {l : List Int} (h : Row w 3 1 v l.length (icells l)) : Ints w v l := ⟨h.seen, fun _ hb => h.type hb⟩
theorem Ints.keep {F : Nat → Prop} {w w' : World} {v : Value} {l : List Int} (h : Ints w v l) (k : Keep F w w') (hF : ∀ b, v.ownBlock = some b → b < w.heap.size → ¬ F b) : Ints w' v l :=
  ⟨h.1.keep k hF, fun b hb => by
    obtain ⟨cs, f, hg⟩ := h.2 b hb
    exact ⟨cs, f, (k.block b (lt_of_block hg) (hF b hb (lt_of_block hg))).trans hg⟩⟩
theorem Ints.slice {w : World} {v : Value} {l : List Int} (h : Ints w v l) : ∃ a cap, v = .slice a l.length cap ∧ l.length ≤ cap ∧ cap ≤ maxLen := by
  obtain ⟨_, a, c, hv, h1, h2, _⟩ := h.1
  exact ⟨a, c, hv, h1, h2⟩

/-- Tables in memory, at (d, o), in blocks of P. -/
structure DbAt (P : Nat → Prop) (w : World) (d o : Nat) (D : DbM) : Prop where
  ex : ∃ (v1 v2 v3 v4 v5 v6 : Value) (rr : List (RecM × Value)) (ss : List (ShopM × Value)), d < w.heap.size ∧ w.rangeAt d o [v1, v2, v3, v4, v5, v6] ∧
    Rec w 127 roomC 10 v1 D.rooms ∧ Rec w 133 protoC 5 v2 D.protos ∧ Rec w 105 mobpC 7 v3 D.mobs ∧
    (Rec w 135 recC 2 v4 rr ∧ rr.map Prod.fst = D.recs ∧ ∀ x ∈ rr, Ints w x.2 x.1.needs) ∧ Rec w 137 questC 5 v5 D.quests ∧
    (Rec w 107 shopC 3 v6 ss ∧ ss.map Prod.fst = D.shops ∧ ∀ x ∈ ss, Ints w x.2 x.1.items) ∧
    P d ∧ (∀ v ∈ [v1, v2, v3, v4, v5, v6], ∀ b, v.ownBlock = some b → P b) ∧ (∀ x ∈ rr, ∀ b, x.2.ownBlock = some b → P b) ∧ (∀ x ∈ ss, ∀ b, x.2.ownBlock = some b → P b)

theorem range_keep {F : Nat → Prop} {w w' : World} {g o : Nat} {cs : List Value} (h : w.rangeAt g o cs) (k : Keep F w w') (hg : g < w.heap.size) (hF : ¬ F g) : w'.rangeAt g o cs :=
  fun j v hv => by rw [k.cell hg hF]; exact h j v hv

theorem DbAt.keep {P F : Nat → Prop} {w w' : World} {d o : Nat} {D : DbM} (h : DbAt P w d o D) (k : Keep F w w') (hF : ∀ b, P b → ¬ F b) : DbAt P w' d o D := by
  obtain ⟨v1, v2, v3, v4, v5, v6, rr, ss, h1, h2, h3, h4, h5, ⟨h6, h7, h8⟩, h9, ⟨h10, h11, h12⟩, h13, h14, h15, h16⟩ := h.ex
  have hv : ∀ v ∈ [v1, v2, v3, v4, v5, v6], ∀ b, v.ownBlock = some b → ¬ F b := fun v hv b hb => hF b (h14 v hv b hb)
  exact ⟨v1, v2, v3, v4, v5, v6, rr, ss, Nat.lt_of_lt_of_le h1 k.size, range_keep h2 k h1 (hF d h13), h3.keep k (hv v1 (by simp)), h4.keep k (hv v2 (by simp)), h5.keep k (hv v3 (by simp)),
    ⟨h6.keep k (hv v4 (by simp)), h7, fun x hx => (h8 x hx).keep k (fun b hb _ => hF b (h15 x hx b hb))⟩, h9.keep k (hv v5 (by simp)),
    ⟨h10.keep k (hv v6 (by simp)), h11, fun x hx => (h12 x hx).keep k (fun b hb _ => hF b (h16 x hx b hb))⟩, h13, h14, h15, h16⟩

end Go.Proofs.YtheaghgockafmaaGreat.Wd
/- Tables: the reference's places of rooms, kinds and mobiles. -/
namespace Go.Proofs.YtheaghgockafmaaGreat.Wd
open Go.RowKit Go.Proofs.YtheaghgockafmaaGreat
set_option maxRecDepth 100000

structure ScR {α : Type} (p : α → Bool) (L : List α) (iv : Value) : Prop where
  ex : ∃ k : Nat, k ≤ L.length ∧ iv = .int .i64 (k : Int) ∧ ∀ (j : Nat) (a : α), j < k → L[j]? = some a → p a = false

theorem scan_next {α : Type} {p : α → Bool} {L : List α} {k : Nat} {a : α} (h : ∀ (j : Nat) (b : α), j < k → L[j]? = some b → p b = false) (hk : L[k]? = some a) (hp : p a = false) : ∀ (j : Nat) (b : α), j < k + 1 → L[j]? = some b → p b = false := fun j b hj hb => by
  by_cases e : j = k
  · subst e; rw [hk] at hb; cases hb; exact hp
  · exact h j b (by omega) hb

theorem scan_end {α : Type} {p : α → Bool} {L : List α} {k : Nat} (h : ∀ (j : Nat) (b : α), j < k → L[j]? = some b → p b = false) (hk : L.length ≤ k) : ∀ (j : Nat) (b : α), L[j]? = some b → p b = false := fun j b hb =>
  h j b (by have := (List.getElem?_eq_some_iff.1 hb).1; omega) hb

theorem roomC_len (x : RoomM) : (roomC x).length = 10 := rfl
theorem protoC_len (x : ProtoM) : (protoC x).length = 5 := rfl
theorem mobpC_len (x : MobPM) : (mobpC x).length = 7 := rfl
theorem recC_len (x : RecM × Value) : (recC x).length = 2 := rfl
theorem questC_len (x : QuestM) : (questC x).length = 5 := rfl
theorem shopC_len (x : ShopM × Value) : (shopC x).length = 3 := rfl

set_option maxHeartbeats 1000000 in
theorem refRoom_any {w : World} {d o : Nat} {D : DbM} {P : Nat → Prop} (h : DbAt P w d o D) (hl : D.rooms.length ≤ 1000000) (id : Int) : Calls Tryz.prog 102 #[.pointer (some ⟨d, o, none⟩), .int .i64 id] w fun e w' => e = .returned (.int .i64 (findI (fun r => r.id == id) D.rooms)) ∧ w = w' := by
  obtain ⟨v1, v2, v3, v4, v5, v6, rr, ss, hd, hr, h1, _⟩ := h.ex
  have H1 := Lib.hid h1
  have p1 : w.cell? ⟨d, o, none⟩ = some v1 := hr 0 _ rfl
  obtain ⟨a1, c1, rfl, hc1, hc2⟩ := h1.slice
  unfold maxLen at hc2
  obtain ⟨L, hL⟩ : ∃ L, L = D.rooms := ⟨_, rfl⟩
  rw [← hL] at H1 p1 hc1 hl ⊢
  clear h hr h1 hL
  go_enter Tryz.func102, Tryz.ntmps102
  go_wp2
  go_loop [5] (fun iv => ScR (fun r : RoomM => r.id == id) L iv) (fun iv => L.length - (intOf iv).toNat)
  case atStart => exact ⟨0, by omega, rfl, fun j a hj => by omega⟩
  case round =>
    obtain ⟨k, hk, rfl, hall⟩ := hrel.ex
    have HA := Lib.hid hall
    clear hall hrel
    by_cases hlt : k < L.length
    · have hd1 : decide (k < L.length) = true := by simpa using hlt
      obtain ⟨x, hx⟩ : ∃ x, L[k]? = some x := ⟨_, List.getElem?_eq_getElem hlt⟩
      obtain ⟨g, off, rfl, _⟩ := H1.out.some hx
      have q1 : w.cell? ⟨g, off + k * 10, none⟩ = some (.int .i64 x.id) := H1.out.cell roomC_len k 0 x hx (by omega)
      have HX := Lib.hid hx
      clear hx
      by_cases he : x.id = id
      · have hb : (x.id == id) = true := by simpa using he
        have HF := Lib.hid (findI_at (p := fun r : RoomM => r.id == id) HA.out HX.out hb)
        clear he
        go_wp2
        go_ret
        exact ⟨by rw [HF.out]; rfl, rfl⟩
      · have hb : (x.id == id) = false := by simpa using he
        have HN := Lib.hid (scan_next (p := fun r : RoomM => r.id == id) HA.out HX.out hb)
        clear he
        go_wp2
        go_round
        case rel => exact ⟨k + 1, by omega, by go_num, HN.out⟩
        case measure => simp [intOf]; omega
    · have hd1 : decide (k < L.length) = false := by rw [decide_eq_false_iff_not]; omega
      have HF := Lib.hid (findI_none (scan_end HA.out (by omega)))
      go_wp2
      go_ret
      exact ⟨by rw [HF.out]; rfl, rfl⟩

set_option maxHeartbeats 1000000 in
theorem refProto_any {w : World} {d o : Nat} {D : DbM} {P : Nat → Prop} (h : DbAt P w d o D) (hl : D.protos.length ≤ 1000000) (id : Int) : Calls Tryz.prog 103 #[.pointer (some ⟨d, o, none⟩), .int .i64 id] w fun e w' => e = .returned (.int .i64 (findI (fun r => r.id == id) D.protos)) ∧ w = w' := by
  obtain ⟨v1, v2, v3, v4, v5, v6, rr, ss, hd, hr, _, h1, _⟩ := h.ex
  have H1 := Lib.hid h1
  have p1 : w.cell? ⟨d, o + 1, none⟩ = some v2 := hr 1 _ rfl
  obtain ⟨a1, c1, rfl, hc1, hc2⟩ := h1.slice
  unfold maxLen at hc2
  obtain ⟨L, hL⟩ : ∃ L, L = D.protos := ⟨_, rfl⟩
  rw [← hL] at H1 p1 hc1 hl ⊢
  clear h hr h1 hL
  go_enter Tryz.func103, Tryz.ntmps103
  go_wp2
  go_loop [5] (fun iv => ScR (fun r : ProtoM => r.id == id) L iv) (fun iv => L.length - (intOf iv).toNat)
  case atStart => exact ⟨0, by omega, rfl, fun j a hj => by omega⟩
  case round =>
    obtain ⟨k, hk, rfl, hall⟩ := hrel.ex
    have HA := Lib.hid hall
    clear hall hrel
    by_cases hlt : k < L.length
    · have hd1 : decide (k < L.length) = true := by simpa using hlt
      obtain ⟨x, hx⟩ : ∃ x, L[k]? = some x := ⟨_, List.getElem?_eq_getElem hlt⟩
      obtain ⟨g, off, rfl, _⟩ := H1.out.some hx
      have q1 : w.cell? ⟨g, off + k * 5, none⟩ = some (.int .i64 x.id) := H1.out.cell protoC_len k 0 x hx (by omega)
      have HX := Lib.hid hx
      clear hx
      by_cases he : x.id = id
      · have hb : (x.id == id) = true := by simpa using he
        have HF := Lib.hid (findI_at (p := fun r : ProtoM => r.id == id) HA.out HX.out hb)
        clear he
        go_wp2
        go_ret
        exact ⟨by rw [HF.out]; rfl, rfl⟩
      · have hb : (x.id == id) = false := by simpa using he
        have HN := Lib.hid (scan_next (p := fun r : ProtoM => r.id == id) HA.out HX.out hb)
        clear he
        go_wp2
        go_round
        case rel => exact ⟨k + 1, by omega, by go_num, HN.out⟩
        case measure => simp [intOf]; omega
    · have hd1 : decide (k < L.length) = false := by rw [decide_eq_false_iff_not]; omega
      have HF := Lib.hid (findI_none (scan_end HA.out (by omega)))
      go_wp2
      go_ret
      exact ⟨by rw [HF.out]; rfl, rfl⟩

set_option maxHeartbeats 1000000 in
theorem refMob_any {w : World} {d o : Nat} {D : DbM} {P : Nat → Prop} (h : DbAt P w d o D) (hl : D.mobs.length ≤ 1000000) (id : Int) : Calls Tryz.prog 247 #[.pointer (some ⟨d, o, none⟩), .int .i64 id] w fun e w' => e = .returned (.int .i64 (findI (fun r => r.id == id) D.mobs)) ∧ w = w' := by
  obtain ⟨v1, v2, v3, v4, v5, v6, rr, ss, hd, hr, _, _, h1, _⟩ := h.ex
  have H1 := Lib.hid h1
  have p1 : w.cell? ⟨d, o + 2, none⟩ = some v3 := hr 2 _ rfl
  obtain ⟨a1, c1, rfl, hc1, hc2⟩ := h1.slice
  unfold maxLen at hc2
  obtain ⟨L, hL⟩ : ∃ L, L = D.mobs := ⟨_, rfl⟩
  rw [← hL] at H1 p1 hc1 hl ⊢
  clear h hr h1 hL
  go_enter Tryz.func247, Tryz.ntmps247
  go_wp2
  go_loop [5] (fun iv => ScR (fun r : MobPM => r.id == id) L iv) (fun iv => L.length - (intOf iv).toNat)
  case atStart => exact ⟨0, by omega, rfl, fun j a hj => by omega⟩
  case round =>
    obtain ⟨k, hk, rfl, hall⟩ := hrel.ex
    have HA := Lib.hid hall
    clear hall hrel
    by_cases hlt : k < L.length
    · have hd1 : decide (k < L.length) = true := by simpa using hlt
      obtain ⟨x, hx⟩ : ∃ x, L[k]? = some x := ⟨_, List.getElem?_eq_getElem hlt⟩
      obtain ⟨g, off, rfl, _⟩ := H1.out.some hx
      have q1 : w.cell? ⟨g, off + k * 7, none⟩ = some (.int .i64 x.id) := H1.out.cell mobpC_len k 0 x hx (by omega)
      have HX := Lib.hid hx
      clear hx
      by_cases he : x.id = id
      · have hb : (x.id == id) = true := by simpa using he
        have HF := Lib.hid (findI_at (p := fun r : MobPM => r.id == id) HA.out HX.out hb)
        clear he
        go_wp2
        go_ret
        exact ⟨by rw [HF.out]; rfl, rfl⟩
      · have hb : (x.id == id) = false := by simpa using he
        have HN := Lib.hid (scan_next (p := fun r : MobPM => r.id == id) HA.out HX.out hb)
        clear he
        go_wp2
        go_round
        case rel => exact ⟨k + 1, by omega, by go_num, HN.out⟩
        case measure => simp [intOf]; omega
    · have hd1 : decide (k < L.length) = false := by rw [decide_eq_false_iff_not]; omega
      have HF := Lib.hid (findI_none (scan_end HA.out (by omega)))
      go_wp2
      go_ret
      exact ⟨by rw [HF.out]; rfl, rfl⟩
end Go.Proofs.YtheaghgockafmaaGreat.Wd
