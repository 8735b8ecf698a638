/- Records of worlds and tables, as data (no program). -/
import Derived.Test.YtcodbomgodkcmaaGreatDoorWdF
namespace Go.Proofs.YtcodbomgodkcmaaGreatDoor.Wd
open Go.RowKit Go.Proofs.YtcodbomgodkcmaaGreatDoor
set_option maxRecDepth 100000

/-- The first place at which p holds; -1: none. -/
def findI {α : Type} (p : α → Bool) : List α → Int
  | [] => -1
  | a :: L => if p a then 0 else match findI p L with | .negSucc n => .negSucc n | .ofNat n => .ofNat (n + 1)

theorem findI_cases {α : Type} (p : α → Bool) : ∀ L : List α, (findI p L = -1 ∧ ∀ (j : Nat) (a : α), L[j]? = some a → p a = false) ∨ ∃ (k : Nat) (a : α), findI p L = (k : Int) ∧ L[k]? = some a ∧ p a = true ∧ ∀ (j : Nat) (b : α), j < k → L[j]? = some b → p b = false
  | [] => .inl ⟨rfl, by simp⟩
  | a :: L => by
    by_cases h : p a = true
    · exact .inr ⟨0, a, by rw [findI, if_pos h]; rfl, rfl, h, fun j b hj => by omega⟩
    · have hf : p a = false := by simpa using h
      rcases findI_cases p L with ⟨h1, h2⟩ | ⟨k, b, h1, h2, h3, h4⟩
      · refine .inl ⟨by rw [findI, if_neg h, h1]; rfl, fun j b hb => ?_⟩
        cases j with
        | zero => simp at hb; subst hb; exact hf
        | succ j => exact h2 j b (by simpa using hb)
      · refine .inr ⟨k + 1, b, by rw [findI, if_neg h, h1]; rfl, by simpa using h2, h3, fun j c hj hc => ?_⟩
        cases j with
        | zero => simp at hc; subst hc; exact hf
        | succ j => exact h4 j c (by omega) (by simpa using hc)

theorem findI_at {α : Type} {p : α → Bool} {L : List α} {k : Nat} {a : α} (h : ∀ (j : Nat) (b : α), j < k → L[j]? = some b → p b = false) (hk : L[k]? = some a) (hp : p a = true) : findI p L = (k : Int) := by
  rcases findI_cases p L with ⟨_, h2⟩ | ⟨k', a', h1, h2, h3, h4⟩
  · rw [h2 k a hk] at hp; cases hp
  · rcases Nat.lt_trichotomy k' k with h5 | h5 | h5
    · rw [h k' a' h5 h2] at h3; cases h3
    · rw [h1, h5]
    · rw [h4 k a h5 hk] at hp; cases hp

theorem findI_none {α : Type} {p : α → Bool} {L : List α} (h : ∀ (j : Nat) (b : α), L[j]? = some b → p b = false) : findI p L = -1 := by
  rcases findI_cases p L with ⟨h1, _⟩ | ⟨k, a, _, h2, h3, _⟩
  · exact h1
  · rw [h k a h2] at h3; cases h3

/-- The places at which p holds, from k on. -/
def places {α : Type} (p : α → Bool) : Nat → List α → List Int
  | _, [] => []
  | k, a :: L => if p a then (k : Int) :: places p (k + 1) L else places p (k + 1) L
theorem places_append {α : Type} (p : α → Bool) : ∀ (L M : List α) (k : Nat), places p k (L ++ M) = places p k L ++ places p (k + L.length) M
  | [], M, k => by simp [places]
  | a :: L, M, k => by
    rw [List.cons_append, places, places, places_append p L M (k + 1), List.length_cons, show k + 1 + L.length = k + (L.length + 1) by omega]
    split <;> simp
theorem places_take {α : Type} {p : α → Bool} {L : List α} {k : Nat} {a : α} (h : L[k]? = some a) : places p 0 (L.take (k + 1)) = places p 0 (L.take k) ++ (if p a then [(k : Int)] else []) := by
  have hl := (List.getElem?_eq_some_iff.1 h).1
  rw [List.take_add_one, h, Option.toList_some, places_append, List.length_take, Nat.min_eq_left (by omega), Nat.zero_add, places, places]
theorem places_len {α : Type} (p : α → Bool) : ∀ (L : List α) (k : Nat), (places p k L).length ≤ L.length
  | [], _ => by simp [places]
  | a :: L, k => by rw [places]; have := places_len p L (k + 1); split <;> simp <;> omega
theorem places_mem {α : Type} (p : α → Bool) : ∀ (L : List α) (k : Nat) (n : Int), n ∈ places p k L → ∃ (j : Nat) (a : α), n = ((k + j : Nat) : Int) ∧ L[j]? = some a ∧ p a = true
  | [], _, n, h => by simp [places] at h
  | a :: L, k, n, h => by
    rw [places] at h
    have hr : n ∈ places p (k + 1) L → ∃ (j : Nat) (b : α), n = ((k + j : Nat) : Int) ∧ (a :: L)[j]? = some b ∧ p b = true := fun h => by
      obtain ⟨j, b, h1, h2, h3⟩ := places_mem p L (k + 1) n h
      exact ⟨j + 1, b, by rw [h1]; congr 1; omega, by simpa using h2, h3⟩
    split at h
    · rename_i hp
      rcases List.mem_cons.1 h with h | h
      · exact ⟨0, a, by rw [h]; rfl, rfl, hp⟩
      · exact hr h
    · exact hr h

theorem sort_take {α : Type} {L : List α} {k : Nat} {x : α} (h : L[k]? = some x) : L.take (k + 1) = L.take k ++ [x] := by rw [List.take_add_one, h]; rfl

structure RoomM where
  id : Int
  name : ByteArray
  kind : Int
  price : Int
  e0 : Int
  e1 : Int
  e2 : Int
  e3 : Int
  e4 : Int
  e5 : Int
structure ProtoM where
  id : Int
  name : ByteArray
  slot : Int
  power : Int
  price : Int
structure MobPM where
  id : Int
  name : ByteArray
  home : Int
  hp : Int
  power : Int
  xp : Int
  gold : Int
structure RecM where
  out : Int
  needs : List Int
structure QuestM where
  id : Int
  item : Int
  count : Int
  gold : Int
  reward : Int
structure ShopM where
  room : Int
  till : Int
  items : List Int
structure DbM where
  rooms : List RoomM
  protos : List ProtoM
  mobs : List MobPM
  recs : List RecM
  quests : List QuestM
  shops : List ShopM

def roomC (x : RoomM) : List Value := [.int .i64 x.id, .string x.name, .int .i64 x.kind, .int .i64 x.price, .int .i64 x.e0, .int .i64 x.e1, .int .i64 x.e2, .int .i64 x.e3, .int .i64 x.e4, .int .i64 x.e5]
def protoC (x : ProtoM) : List Value := [.int .i64 x.id, .string x.name, .int .i64 x.slot, .int .i64 x.power, .int .i64 x.price]
def mobpC (x : MobPM) : List Value := [.int .i64 x.id, .string x.name, .int .i64 x.home, .int .i64 x.hp, .int .i64 x.power, .int .i64 x.xp, .int .i64 x.gold]
def recC (x : RecM × Value) : List Value := [.int .i64 x.1.out, x.2]
def questC (x : QuestM) : List Value := [.int .i64 x.id, .int .i64 x.item, .int .i64 x.count, .int .i64 x.gold, .int .i64 x.reward]
def shopC (x : ShopM × Value) : List Value := [.int .i64 x.1.room, .int .i64 x.1.till, x.2]

/-- The slice v reads as numbers. -/
def Ints (w : World) (v : Value) (l : List Int) : Prop := Seen w 1 v l.length (icells l) ∧ ∀ b, v.ownBlock = some b → ∃ cs f, w.heap[b]? = some (.cells cs 3 f)
theorem Ints.of_row {w : World} {v : Value} {l : List Int} (h : Row w 3 1 v l.length (icells l)) : Ints w v l := ⟨h.seen, fun _ hb => h.type hb⟩
theorem Ints.keep {F : Nat → Prop} {w w' : World} {v : Value} {l : List Int} (h : Ints w v l) (k : Keep F w w') (hF : ∀ b, v.ownBlock = some b → b < w.heap.size → ¬ F b) : Ints w' v l :=
  ⟨h.1.keep k hF, fun b hb => by
    obtain ⟨cs, f, hg⟩ := h.2 b hb
    exact ⟨cs, f, (k.block b (lt_of_block hg) (hF b hb (lt_of_block hg))).trans hg⟩⟩
theorem Ints.slice {w : World} {v : Value} {l : List Int} (h : Ints w v l) : ∃ a cap, v = .slice a l.length cap ∧ l.length ≤ cap ∧ cap ≤ maxLen := by
  obtain ⟨_, a, c, hv, h1, h2, _⟩ := h.1
  exact ⟨a, c, hv, h1, h2⟩

/-- Tables in memory, at (d, o), in blocks of P. -/
structure DbAt (P : Nat → Prop) (w : World) (d o : Nat) (D : DbM) : Prop where
  ex : ∃ (v1 v2 v3 v4 v5 v6 : Value) (rr : List (RecM × Value)) (ss : List (ShopM × Value)), d < w.heap.size ∧ w.rangeAt d o [v1, v2, v3, v4, v5, v6] ∧
    Rec w 53 roomC 10 v1 D.rooms ∧ Rec w 78 protoC 5 v2 D.protos ∧ Rec w 80 mobpC 7 v3 D.mobs ∧
    (Rec w 83 recC 2 v4 rr ∧ rr.map Prod.fst = D.recs ∧ ∀ x ∈ rr, Ints w x.2 x.1.needs) ∧ Rec w 86 questC 5 v5 D.quests ∧
    (Rec w 88 shopC 3 v6 ss ∧ ss.map Prod.fst = D.shops ∧ ∀ x ∈ ss, Ints w x.2 x.1.items) ∧
    P d ∧ (∀ v ∈ [v1, v2, v3, v4, v5, v6], ∀ b, v.ownBlock = some b → P b) ∧ (∀ x ∈ rr, ∀ b, x.2.ownBlock = some b → P b) ∧ (∀ x ∈ ss, ∀ b, x.2.ownBlock = some b → P b)

theorem range_keep {F : Nat → Prop} {w w' : World} {g o : Nat} {cs : List Value} (h : w.rangeAt g o cs) (k : Keep F w w') (hg : g < w.heap.size) (hF : ¬ F g) : w'.rangeAt g o cs :=
  fun j v hv => by rw [k.cell hg hF]; exact h j v hv

theorem DbAt.keep {P F : Nat → Prop} {w w' : World} {d o : Nat} {D : DbM} (h : DbAt P w d o D) (k : Keep F w w') (hF : ∀ b, P b → ¬ F b) : DbAt P w' d o D := by
  obtain ⟨v1, v2, v3, v4, v5, v6, rr, ss, h1, h2, h3, h4, h5, ⟨h6, h7, h8⟩, h9, ⟨h10, h11, h12⟩, h13, h14, h15, h16⟩ := h.ex
  have hv : ∀ v ∈ [v1, v2, v3, v4, v5, v6], ∀ b, v.ownBlock = some b → ¬ F b := fun v hv b hb => hF b (h14 v hv b hb)
  exact ⟨v1, v2, v3, v4, v5, v6, rr, ss, Nat.lt_of_lt_of_le h1 k.size, range_keep h2 k h1 (hF d h13), h3.keep k (hv v1 (by simp)), h4.keep k (hv v2 (by simp)), h5.keep k (hv v3 (by simp)),
    ⟨h6.keep k (hv v4 (by simp)), h7, fun x hx => (h8 x hx).keep k (fun b hb _ => hF b (h15 x hx b hb))⟩, h9.keep k (hv v5 (by simp)),
    ⟨h10.keep k (hv v6 (by simp)), h11, fun x hx => (h12 x hx).keep k (fun b hb _ => hF b (h16 x hx b hb))⟩, h13, h14, h15, h16⟩

end Go.Proofs.YtcodbomgodkcmaaGreatDoor.Wd
