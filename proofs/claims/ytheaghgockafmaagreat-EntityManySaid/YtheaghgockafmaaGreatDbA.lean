/- World files: what a line says, what tables must be (no program beyond names of numbers). -/
import Derived.Test.YtheaghgockafmaaGreatWdN
import Derived.Test.YtheaghgockafmaaGreatWdO
namespace Go.Proofs.YtheaghgockafmaaGreat.Wd
open Go.RowKit Go.Proofs.YtheaghgockafmaaGreat Go.Proofs.YtheaghgockafmaaGreat.Lin
set_option maxRecDepth 100000

/-- Numbers, rising. -/
def sortI (l : List Int) : List Int := l.mergeSort (fun a b => decide (a ≤ b))
theorem sortI_of (l : List Int) : SortOf id l (sortI l) := by
  refine ⟨List.mergeSort_perm _ _, ?_⟩
  have := List.pairwise_mergeSort (le := fun a b : Int => decide (a ≤ b)) (fun a b c h1 h2 => by simp at *; omega) (fun a b => by simp; omega) l
  exact this.imp (fun h => by simpa using h)
theorem SortOf.ints {l M N : List Int} (h1 : SortOf id l M) (h2 : SortOf id l N) : M = N :=
  List.Perm.eq_of_pairwise (le := fun a b : Int => a ≤ b) (fun a b _ _ h1 h2 => by omega) h1.2 h2.2 (h1.1.trans h2.1.symm)
theorem SortOf.sortI {l M : List Int} (h : SortOf id l M) : M = Wd.sortI l := h.ints (sortI_of l)
theorem sortI_len (l : List Int) : (sortI l).length = l.length := (List.mergeSort_perm _ _).length_eq

/-- A word of a line. -/
def atW (l : List ByteArray) (i : Nat) : ByteArray := l[i]?.getD ⟨#[]⟩
theorem atW_get {l : List ByteArray} {i : Nat} (h : i < l.length) : l[i]? = some (atW l i) := by unfold atW; rw [List.getElem?_eq_getElem h]; rfl
def wordOk (s : ByteArray) : Bool := wordB s.data.toList
abbrev kindsW : List ByteArray := [⟨#[112, 108, 97, 105, 110]⟩, ⟨#[115, 104, 111, 112]⟩, ⟨#[98, 97, 110, 107]⟩, ⟨#[102, 111, 114, 103, 101]⟩, ⟨#[104, 111, 117, 115, 101]⟩, ⟨#[104, 97, 108, 108]⟩]
abbrev slotsW : List ByteArray := [⟨#[110, 111, 110, 101]⟩, ⟨#[119, 105, 101, 108, 100]⟩, ⟨#[98, 111, 100, 121]⟩]
def kindFD (s : ByteArray) : Int := findI (fun x => decide (x = s)) kindsW
def slotNF (s : ByteArray) : Int := findI (fun x => decide (x = s)) slotsW

inductive RecI where
  | room (x : RoomM)
  | proto (x : ProtoM)
  | mob (x : MobPM)
  | recipe (x : RecM)
  | quest (x : QuestM)
  | shop (x : ShopM)

def push (D : DbM) : RecI → DbM
  | .room x => { D with rooms := D.rooms ++ [x] }
  | .proto x => { D with protos := D.protos ++ [x] }
  | .mob x => { D with mobs := D.mobs ++ [x] }
  | .recipe x => { D with recs := D.recs ++ [x] }
  | .quest x => { D with quests := D.quests ++ [x] }
  | .shop x => { D with shops := D.shops ++ [x] }
def noDb : DbM := ⟨[], [], [], [], [], []⟩

abbrev wRoom : ByteArray := ⟨#[114, 111, 111, 109]⟩
abbrev wItem : ByteArray := ⟨#[105, 116, 101, 109]⟩
abbrev wMob : ByteArray := ⟨#[109, 111, 98]⟩
abbrev wRecipe : ByteArray := ⟨#[114, 101, 99, 105, 112, 101]⟩
abbrev wQuest : ByteArray := ⟨#[113, 117, 101, 115, 116]⟩
abbrev wShop : ByteArray := ⟨#[115, 104, 111, 112]⟩
abbrev gMax : Int := 1073741824

def roomFD (l : List ByteArray) : Option RecI :=
  match (numF (atW l 1) 1 1000).2 && (numF (atW l 4) 0 gMax).2 && decide (0 ≤ kindFD (atW l 3)) && wordOk (atW l 2), numsF 0 1000 (l.drop 5) with
  | true, some [e0, e1, e2, e3, e4, e5] => some (.room ⟨(numF (atW l 1) 1 1000).1, atW l 2, kindFD (atW l 3), (numF (atW l 4) 0 gMax).1, e0, e1, e2, e3, e4, e5⟩)
  | _, _ => none
def itemF (l : List ByteArray) : Option RecI :=
  if (numF (atW l 1) 1 1000).2 && (numF (atW l 4) 0 100).2 && (numF (atW l 5) 0 gMax).2 && decide (0 ≤ slotNF (atW l 3)) && wordOk (atW l 2) then
    some (.proto ⟨(numF (atW l 1) 1 1000).1, atW l 2, slotNF (atW l 3), (numF (atW l 4) 0 100).1, (numF (atW l 5) 0 gMax).1⟩) else none
def mobLF (l : List ByteArray) : Option RecI :=
  if (numF (atW l 1) 1 1000).2 && (numF (atW l 3) 1 1000).2 && (numF (atW l 4) 1 10000).2 && (numF (atW l 5) 0 100).2 && (numF (atW l 6) 0 10000).2 && (numF (atW l 7) 0 gMax).2 && wordOk (atW l 2) then
    some (.mob ⟨(numF (atW l 1) 1 1000).1, atW l 2, (numF (atW l 3) 1 1000).1, (numF (atW l 4) 1 10000).1, (numF (atW l 5) 0 100).1, (numF (atW l 6) 0 10000).1, (numF (atW l 7) 0 gMax).1⟩) else none
def recipeF (l : List ByteArray) : Option RecI :=
  match (numF (atW l 1) 1 1000).2 && decide (3 ≤ l.length) && decide (l.length ≤ 7), numsF 1 1000 (l.drop 2) with
  | true, some ns => some (.recipe ⟨(numF (atW l 1) 1 1000).1, sortI ns⟩)
  | _, _ => none
def questF (l : List ByteArray) : Option RecI :=
  if (numF (atW l 1) 1 1000).2 && (numF (atW l 2) 1 1000).2 && (numF (atW l 3) 1 5).2 && (numF (atW l 4) 0 gMax).2 && (numF (atW l 5) 0 1000).2 then
    some (.quest ⟨(numF (atW l 1) 1 1000).1, (numF (atW l 2) 1 1000).1, (numF (atW l 3) 1 5).1, (numF (atW l 4) 0 gMax).1, (numF (atW l 5) 0 1000).1⟩) else none
def shopFD (l : List ByteArray) : Option RecI :=
  match (numF (atW l 1) 1 1000).2 && (numF (atW l 2) 0 gMax).2, numsF 1 1000 (l.drop 3) with
  | true, some ns => some (.shop ⟨(numF (atW l 1) 1 1000).1, (numF (atW l 2) 0 gMax).1, sortI ns⟩)
  | _, _ => none

/-- What a line of words says. -/
def lineW (l : List ByteArray) : Option RecI :=
  if l.length < 2 then none
  else if atW l 0 = wRoom then (if l.length = 11 then roomFD l else none)
  else if atW l 0 = wItem then (if l.length = 6 then itemF l else none)
  else if atW l 0 = wMob then (if l.length = 8 then mobLF l else none)
  else if atW l 0 = wRecipe then recipeF l
  else if atW l 0 = wQuest then (if l.length = 6 then questF l else none)
  else if atW l 0 = wShop then (if l.length < 3 ∨ 11 < l.length then none else shopFD l)
  else none

/-- Lines from k on, into tables: the number of the first that is none, or the tables. -/
def parseGo : Nat → List (List UInt8) → DbM → Nat ⊕ DbM
  | _, [], D => .inr D
  | k, x :: r, D => if wordsL x = [] ∨ x.head? = some 35 then parseGo (k + 1) r D else match lineW (txts (wordsL x)) with
    | none => .inl (k + 1)
    | some R => parseGo (k + 1) r (push D R)

/-- The lists, each by its numbers. -/
structure SortDb (D M : DbM) : Prop where
  rooms : SortOf RoomM.id D.rooms M.rooms
  protos : SortOf ProtoM.id D.protos M.protos
  mobs : SortOf MobPM.id D.mobs M.mobs
  recs : SortOf RecM.out D.recs M.recs
  quests : SortOf QuestM.id D.quests M.quests
  shops : SortOf ShopM.room D.shops M.shops

/-- Each record is as it must be, and the numbers rise. -/
def Rise {α : Type} (ok : α → Bool) (key : α → Int) (L : List α) : Prop := (∀ x ∈ L, ok x = true) ∧ L.Pairwise (fun a b => key a < key b)
/-- The front of k records is. -/
def RiseTo {α : Type} (ok : α → Bool) (key : α → Int) (L : List α) (k : Nat) : Prop := (∀ j x, j < k → L[j]? = some x → ok x = true ∧ ∀ y, 0 < j → L[j - 1]? = some y → key y < key x)

theorem RiseTo.zero {α : Type} (ok : α → Bool) (key : α → Int) (L : List α) : RiseTo ok key L 0 := fun j x h => by omega
theorem RiseTo.next {α : Type} {ok : α → Bool} {key : α → Int} {L : List α} {k : Nat} {x : α} (h : RiseTo ok key L k) (hx : L[k]? = some x) (h1 : ok x = true) (h2 : ∀ y, 0 < k → L[k - 1]? = some y → key y < key x) : RiseTo ok key L (k + 1) := fun j z hj hz => by
  by_cases e : j = k
  · subst e; rw [hx] at hz; cases hz; exact ⟨h1, h2⟩
  · exact h j z (by omega) hz
theorem RiseTo.all {α : Type} {ok : α → Bool} {key : α → Int} {L : List α} : Rise ok key L ↔ RiseTo ok key L L.length := by
  constructor
  · rintro ⟨h1, h2⟩ j x hj hx
    refine ⟨h1 x (List.mem_of_getElem? hx), fun y h0 hy => ?_⟩
    obtain ⟨g1, e1⟩ := List.getElem?_eq_some_iff.1 hx
    obtain ⟨g2, e2⟩ := List.getElem?_eq_some_iff.1 hy
    have := List.pairwise_iff_getElem.1 h2 (j - 1) j g2 g1 (by omega)
    rw [e1, e2] at this
    exact this
  · intro h
    refine ⟨fun x hx => ?_, ?_⟩
    · obtain ⟨j, hj, rfl⟩ := List.mem_iff_getElem.1 hx
      exact (h j _ hj (List.getElem?_eq_getElem hj)).1
    · rw [List.pairwise_iff_getElem]
      intro i j hi hj hij
      induction j with
      | zero => omega
      | succ j ih =>
        have h1 := (h (j + 1) _ hj (List.getElem?_eq_getElem hj)).2 _ (by omega) (by rw [show j + 1 - 1 = j by omega]; exact List.getElem?_eq_getElem (by omega))
        by_cases e : i = j
        · subst e; exact h1
        · have := ih (by omega) (by omega); omega
theorem RiseTo.fail {α : Type} {ok : α → Bool} {key : α → Int} {L : List α} {k : Nat} {x : α} (hx : L[k]? = some x) (h : ok x = false ∨ ∃ y, 0 < k ∧ L[k - 1]? = some y ∧ key x ≤ key y) : ¬ Rise ok key L := by
  rw [RiseTo.all]
  intro hh
  obtain ⟨h1, h2⟩ := hh k x (List.getElem?_eq_some_iff.1 hx).1 hx
  rcases h with h | ⟨y, h0, hy, hle⟩
  · rw [h] at h1; cases h1
  · have := h2 y h0 hy; omega

/-- Sorted by distinct numbers in just one way. -/
theorem SortOf.rise {α : Type} {ok : α → Bool} {key : α → Int} {L M N : List α} (h1 : SortOf key L M) (h2 : SortOf key L N) (h : Rise ok key M) : M = N := by
  refine List.Perm.eq_of_pairwise (le := fun a b : α => key a ≤ key b) (fun a b ha hb g1 g2 => ?_) h1.2 h2.2 (h1.1.trans h2.1.symm)
  have hb' : b ∈ M := (h1.1.trans h2.1.symm).mem_iff.2 hb
  obtain ⟨i, hi, rfl⟩ := List.mem_iff_getElem.1 ha
  obtain ⟨j, hj, rfl⟩ := List.mem_iff_getElem.1 hb'
  rcases Nat.lt_trichotomy i j with e | e | e
  · have := List.pairwise_iff_getElem.1 h.2 i j hi hj e; omega
  · subst e; rfl
  · have := List.pairwise_iff_getElem.1 h.2 j i hj hi e; omega
theorem SortOf.rise_iff {α : Type} {ok : α → Bool} {key : α → Int} {L M N : List α} (h1 : SortOf key L M) (h2 : SortOf key L N) : Rise ok key M ↔ Rise ok key N :=
  ⟨fun h => h1.rise h2 h ▸ h, fun h => h2.rise h1 h ▸ h⟩

def okRoom (r : RoomM) : Bool := inB r.id 1 1000 && wordOk r.name && inB r.kind 0 5 && inB r.price 0 gMax && inB r.e0 0 1000 && inB r.e1 0 1000 && inB r.e2 0 1000 && inB r.e3 0 1000 && inB r.e4 0 1000 && inB r.e5 0 1000
def okProto (p : ProtoM) : Bool := inB p.id 1 1000 && wordOk p.name && inB p.slot 0 2 && inB p.power 0 100 && inB p.price 0 gMax
def okMobP (m : MobPM) : Bool := inB m.id 1 1000 && wordOk m.name && inB m.home 1 1000 && inB m.hp 1 10000 && inB m.power 0 100 && inB m.xp 0 10000 && inB m.gold 0 gMax
/-- Numbers from 1 to 1,000 that do not fall. -/
def okNeeds (l : List Int) : Prop := (∀ n ∈ l, inB n 1 1000 = true) ∧ l.Pairwise (fun a b => a ≤ b)
instance (l : List Int) : Decidable (okNeeds l) := by unfold okNeeds; infer_instance
def okItems (l : List Int) : Prop := (∀ n ∈ l, inB n 1 1000 = true) ∧ l.Pairwise (fun a b => a < b)
instance (l : List Int) : Decidable (okItems l) := by unfold okItems; infer_instance
def okRec (r : RecM) : Bool := inB r.out 1 1000 && decide (1 ≤ r.needs.length) && decide (r.needs.length ≤ 5) && decide (okNeeds r.needs)
def okQuest (q : QuestM) : Bool := inB q.id 1 1000 && inB q.item 1 1000 && inB q.count 1 5 && inB q.gold 0 gMax && inB q.reward 0 1000
def okShop (s : ShopM) : Bool := inB s.room 1 1000 && inB s.till 0 gMax && decide (s.items.length ≤ 8) && decide (okItems s.items)

def RoomsOk (D : DbM) : Prop := Rise okRoom RoomM.id D.rooms ∧ D.rooms.length ≤ 60
def ThingsOk (D : DbM) : Prop := Rise okProto ProtoM.id D.protos ∧ Rise okMobP MobPM.id D.mobs ∧ D.protos.length ≤ 60 ∧ D.mobs.length ≤ 60
def RestOk (D : DbM) : Prop := Rise okRec RecM.out D.recs ∧ Rise okQuest QuestM.id D.quests ∧ Rise okShop ShopM.room D.shops ∧ D.recs.length ≤ 60 ∧ D.quests.length ≤ 60 ∧ D.shops.length ≤ 60

def hasRoom (D : DbM) (n : Int) : Bool := decide (0 ≤ findI (fun r : RoomM => r.id == n) D.rooms)
def hasProto (D : DbM) (n : Int) : Bool := decide (0 ≤ findI (fun r : ProtoM => r.id == n) D.protos)
def exitOk (D : DbM) (n : Int) : Bool := n == 0 || hasRoom D n
def ThereOk (D : DbM) : Prop :=
  (∀ r ∈ D.rooms, exitOk D r.e0 = true ∧ exitOk D r.e1 = true ∧ exitOk D r.e2 = true ∧ exitOk D r.e3 = true ∧ exitOk D r.e4 = true ∧ exitOk D r.e5 = true) ∧
  (∀ m ∈ D.mobs, hasRoom D m.home = true) ∧ (∀ r ∈ D.recs, hasProto D r.out = true ∧ ∀ n ∈ r.needs, hasProto D n = true) ∧
  (∀ q ∈ D.quests, hasProto D q.item = true ∧ (q.reward = 0 ∨ hasProto D q.reward = true)) ∧
  (∀ s ∈ D.shops, (∃ (k : Nat) (r : RoomM), findI (fun r : RoomM => r.id == s.room) D.rooms = (k : Int) ∧ D.rooms[k]? = some r ∧ r.kind = 1) ∧ ∀ n ∈ s.items, hasProto D n = true)

open Classical in
/-- What Check answers: 0, ErrLine, ErrNotFound. -/
noncomputable def checkF (D : DbM) : Int := if D.rooms = [] ∨ ¬ RoomsOk D ∨ ¬ ThingsOk D ∨ ¬ RestOk D then 13 else if ¬ ThereOk D then 6 else 0
end Go.Proofs.YtheaghgockafmaaGreat.Wd
