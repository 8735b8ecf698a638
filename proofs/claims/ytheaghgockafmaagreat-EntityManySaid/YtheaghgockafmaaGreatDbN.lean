/- World files: what a line says to the program, which sorts a recipe's needs and a shop's items last; and that it is the same (no program). -/
import Derived.Test.YtheaghgockafmaaGreatDbA
namespace Go.Proofs.YtheaghgockafmaaGreat.Wd
open Go.RowKit Go.Proofs.YtheaghgockafmaaGreat Go.Proofs.YtheaghgockafmaaGreat.Lin
set_option maxRecDepth 100000

/-- The number that a word is; -1: none. -/
def rdn (s : ByteArray) : Int := match numL s.data.toList with | some n => (n : Int) | none => -1
theorem numF_ok (s : ByteArray) {a b : Int} (h : 0 ≤ a) : (numF s a b).2 = inB (rdn s) a b := by
  unfold numF rdn
  cases numL s.data.toList with
  | some n => rfl
  | none => simp [inB]; omega
theorem numF_val (s : ByteArray) {a b : Int} (h : (numF s a b).2 = true) : (numF s a b).1 = rdn s := by
  unfold numF rdn at *
  cases hn : numL s.data.toList with
  | some n => rfl
  | none => rw [hn] at h; cases h
theorem rdn_lo (s : ByteArray) : -1 ≤ rdn s := by unfold rdn; split <;> omega
theorem numL_hi {l : List UInt8} {n : Nat} (h : numL l = some n) : n ≤ 1099511627776 := by
  unfold numL at h
  split at h
  · rename_i hh; simp at h; rw [← h]; exact hh.2.2.2.2
  · cases h
theorem rdn_hi (s : ByteArray) : rdn s ≤ 1099511627776 := by
  unfold rdn; split
  · rename_i n h; have := numL_hi h; omega
  · omega
theorem rdn_nil : rdn ⟨#[]⟩ = -1 := rfl

theorem numsF_iff (a b : Int) (h : 0 ≤ a) : ∀ L : List ByteArray, numsF a b L = if (L.map rdn).all (fun n => inB n a b) then some (L.map rdn) else none
  | [] => rfl
  | s :: L => by
    rw [numsF, numsF_iff a b h L, List.map_cons, List.all_cons, numF_ok s h]
    by_cases h1 : inB (rdn s) a b = true
    · rw [if_pos h1, h1, Bool.true_and, numF_val s (by rw [numF_ok s h]; exact h1)]
      split <;> rfl
    · rw [if_neg h1]
      simp [h1]

/-- A row as the program reads it. -/
def roomP (r : List ByteArray) : RoomM := ⟨rdn (atW r 0), atW r 1, kindFD (atW r 2), rdn (atW r 3), rdn (atW r 4), rdn (atW r 5), rdn (atW r 6), rdn (atW r 7), rdn (atW r 8), rdn (atW r 9)⟩
def protoP (r : List ByteArray) : ProtoM := ⟨rdn (atW r 0), atW r 1, slotNF (atW r 2), rdn (atW r 3), rdn (atW r 4)⟩
def mobP (r : List ByteArray) : MobPM := ⟨rdn (atW r 0), atW r 1, rdn (atW r 2), rdn (atW r 3), rdn (atW r 4), rdn (atW r 5), rdn (atW r 6)⟩
def recP (r : List ByteArray) : RecM := ⟨rdn (atW r 0), (r.drop 1).map rdn⟩
def questP (r : List ByteArray) : QuestM := ⟨rdn (atW r 0), rdn (atW r 1), rdn (atW r 2), rdn (atW r 3), rdn (atW r 4)⟩
def shopP (r : List ByteArray) : ShopM := ⟨rdn (atW r 0), rdn (atW r 1), (r.drop 2).map rdn⟩
/-- Is it a row, whatever the order of its list? -/
def okRecU (r : RecM) : Bool := inB r.out 1 1000 && (decide (1 ≤ r.needs.length) && decide (r.needs.length ≤ 5)) && r.needs.all (fun n => inB n 1 1000)
def okShopU (s : ShopM) : Bool := inB s.room 1 1000 && inB s.till 0 gMax && decide (s.items.length ≤ 8) && s.items.all (fun n => inB n 1 1000)

/-- What the words behind a line's first say to the program. -/
def lineU (h : ByteArray) (r : List ByteArray) : Option RecI :=
  if h = wRoom then (if r.drop 10 = [] ∧ okRoom (roomP r) = true then some (.room (roomP r)) else none)
  else if h = wItem then (if r.drop 5 = [] ∧ okProto (protoP r) = true then some (.proto (protoP r)) else none)
  else if h = wMob then (if r.drop 7 = [] ∧ okMobP (mobP r) = true then some (.mob (mobP r)) else none)
  else if h = wRecipe then (if okRecU (recP r) = true then some (.recipe (recP r)) else none)
  else if h = wQuest then (if r.drop 5 = [] ∧ okQuest (questP r) = true then some (.quest (questP r)) else none)
  else if h = wShop then (if okShopU (shopP r) = true then some (.shop (shopP r)) else none)
  else none

/-- Needs and items, sorted. -/
def sortR : RecI → RecI
  | .recipe x => .recipe { x with needs := sortI x.needs }
  | .shop x => .shop { x with items := sortI x.items }
  | r => r
def sortN (D : DbM) : DbM := { D with recs := D.recs.map fun x => { x with needs := sortI x.needs }, shops := D.shops.map fun x => { x with items := sortI x.items } }
theorem push_sort (D : DbM) (R : RecI) : push (sortN D) (sortR R) = sortN (push D R) := by cases R <;> simp [push, sortN, sortR]
theorem sortN_no : sortN noDb = noDb := rfl

theorem atW_drop (l : List ByteArray) (k i : Nat) : atW (l.drop k) i = atW l (k + i) := by unfold atW; rw [List.getElem?_drop]
theorem atW_none {l : List ByteArray} {i : Nat} (h : l.length ≤ i) : atW l i = ⟨#[]⟩ := by unfold atW; rw [List.getElem?_eq_none h]; rfl
theorem rdn_none {l : List ByteArray} {i : Nat} (h : l.length ≤ i) : rdn (atW l i) = -1 := by rw [atW_none h]; rfl
theorem drop_nil {l : List ByteArray} {k : Nat} : l.drop k = [] ↔ l.length ≤ k := List.drop_eq_nil_iff

theorem kindF_hi (s : ByteArray) : kindFD s ≤ 5 := by
  unfold kindFD
  rcases findI_cases (fun x => decide (x = s)) kindsW with ⟨h, _⟩ | ⟨k, a, h, hk, _⟩
  · omega
  · have := (List.getElem?_eq_some_iff.1 hk).1
    simp at this; omega
theorem slotNF_hi (s : ByteArray) : slotNF s ≤ 2 := by
  unfold slotNF
  rcases findI_cases (fun x => decide (x = s)) slotsW with ⟨h, _⟩ | ⟨k, a, h, hk, _⟩
  · omega
  · have := (List.getElem?_eq_some_iff.1 hk).1
    simp at this; omega
theorem kindF_in (s : ByteArray) : inB (kindFD s) 0 5 = decide (0 ≤ kindFD s) := by have := kindF_hi s; unfold inB; simp; omega
theorem slotNF_in (s : ByteArray) : inB (slotNF s) 0 2 = decide (0 ≤ slotNF s) := by have := slotNF_hi s; unfold inB; simp; omega
theorem list6 {α : Type} {l : List α} (h : l.length = 6) : ∃ a b c d e f, l = [a, b, c, d, e, f] := by
  match l, h with
  | [a, b, c, d, e, f], _ => exact ⟨a, b, c, d, e, f, rfl⟩
theorem last_bad {l : List ByteArray} {k : Nat} (h : l.length ≤ k) {a b : Int} (ha : 0 ≤ a) : inB (rdn (atW l k)) a b = false := by rw [rdn_none h]; simp [inB]; omega

theorem room_same (h : ByteArray) (r : List ByteArray) : (if (h :: r).length = 11 then roomFD (h :: r) else none) = if r.drop 10 = [] ∧ okRoom (roomP r) = true then some (.room (roomP r)) else none := by
  by_cases hl : r.length = 10
  · rw [if_pos (by rw [List.length_cons, hl])]
    have hd : r.drop 10 = [] := drop_nil.2 (by omega)
    have h6 : (r.drop 4).length = 6 := by rw [List.length_drop]; omega
    obtain ⟨a, b, c, d, e, f, h46⟩ := list6 h6
    have ha : ∀ i, atW (r.drop 4) i = atW r (4 + i) := fun i => atW_drop r 4 i
    rw [h46] at ha
    have e0 : a = atW r 4 := ha 0
    have e1 : b = atW r 5 := ha 1
    have e2 : c = atW r 6 := ha 2
    have e3 : d = atW r 7 := ha 3
    have e4 : e = atW r 8 := ha 4
    have e5 : f = atW r 9 := ha 5
    unfold roomFD
    rw [show (h :: r).drop 5 = r.drop 4 from rfl, h46, numsF_iff 0 1000 (by omega), e0, e1, e2, e3, e4, e5,
      show atW (h :: r) 1 = atW r 0 from rfl, show atW (h :: r) 2 = atW r 1 from rfl, show atW (h :: r) 3 = atW r 2 from rfl, show atW (h :: r) 4 = atW r 3 from rfl,
      numF_ok _ (a := 1) (by omega), numF_ok _ (a := 0) (by omega)]
    unfold okRoom roomP
    simp only [kindF_in]
    by_cases g1 : inB (rdn (atW r 0)) 1 1000 = true
    · by_cases g2 : inB (rdn (atW r 3)) 0 gMax = true
      · rw [numF_val (atW r 0) (a := 1) (b := 1000) (by rw [numF_ok _ (by omega)]; exact g1), numF_val (atW r 3) (a := 0) (b := gMax) (by rw [numF_ok _ (by omega)]; exact g2)]
        simp only [g1, g2, hd, List.map_cons, List.map_nil, List.all_cons, List.all_nil, Bool.and_true, Bool.true_and, true_and]
        cases decide (0 ≤ kindFD (atW r 2)) <;> cases wordOk (atW r 1) <;> simp
        by_cases g3 : inB (rdn (atW r 4)) 0 1000 = true ∧ inB (rdn (atW r 5)) 0 1000 = true ∧ inB (rdn (atW r 6)) 0 1000 = true ∧ inB (rdn (atW r 7)) 0 1000 = true ∧ inB (rdn (atW r 8)) 0 1000 = true ∧ inB (rdn (atW r 9)) 0 1000 = true
        · simp [g3]
        · rw [if_neg g3, if_neg (by simpa [and_assoc] using g3)]
      · simp only [Bool.not_eq_true] at g2
        simp [g2]
    · simp only [Bool.not_eq_true] at g1
      simp [g1]
  · rw [if_neg (by rw [List.length_cons]; omega)]
    by_cases hh : r.length ≤ 9
    · rw [if_neg]
      rintro ⟨_, h2⟩
      unfold okRoom roomP at h2
      rw [last_bad (k := 9) hh (by omega)] at h2
      simp at h2
    · rw [if_neg (fun hc => by have := drop_nil.1 hc.1; omega)]

theorem item_same (h : ByteArray) (r : List ByteArray) : (if (h :: r).length = 6 then itemF (h :: r) else none) = if r.drop 5 = [] ∧ okProto (protoP r) = true then some (.proto (protoP r)) else none := by
  by_cases hl : r.length = 5
  · rw [if_pos (by rw [List.length_cons, hl])]
    have hd : r.drop 5 = [] := drop_nil.2 (by omega)
    unfold itemF
    rw [show atW (h :: r) 1 = atW r 0 from rfl, show atW (h :: r) 2 = atW r 1 from rfl, show atW (h :: r) 3 = atW r 2 from rfl, show atW (h :: r) 4 = atW r 3 from rfl, show atW (h :: r) 5 = atW r 4 from rfl,
      numF_ok (atW r 0) (a := 1) (by omega), numF_ok (atW r 3) (a := 0) (by omega), numF_ok (atW r 4) (a := 0) (by omega)]
    unfold okProto protoP
    simp only [slotNF_in, hd, true_and]
    by_cases g1 : inB (rdn (atW r 0)) 1 1000 = true
    · by_cases g2 : inB (rdn (atW r 3)) 0 100 = true
      · by_cases g3 : inB (rdn (atW r 4)) 0 gMax = true
        · rw [numF_val (atW r 0) (a := 1) (b := 1000) (by rw [numF_ok _ (by omega)]; exact g1), numF_val (atW r 3) (a := 0) (b := 100) (by rw [numF_ok _ (by omega)]; exact g2), numF_val (atW r 4) (a := 0) (b := gMax) (by rw [numF_ok _ (by omega)]; exact g3)]
          simp only [g1, g2, g3]
          cases decide (0 ≤ slotNF (atW r 2)) <;> cases wordOk (atW r 1) <;> simp
        · simp only [Bool.not_eq_true] at g3
          simp [g3]
      · simp only [Bool.not_eq_true] at g2
        simp [g2]
    · simp only [Bool.not_eq_true] at g1
      simp [g1]
  · rw [if_neg (by rw [List.length_cons]; omega)]
    by_cases hh : r.length ≤ 4
    · rw [if_neg]
      rintro ⟨_, h2⟩
      unfold okProto protoP at h2
      rw [last_bad (k := 4) hh (by omega)] at h2
      simp at h2
    · rw [if_neg (fun hc => by have := drop_nil.1 hc.1; omega)]

theorem mob_same (h : ByteArray) (r : List ByteArray) : (if (h :: r).length = 8 then mobLF (h :: r) else none) = if r.drop 7 = [] ∧ okMobP (mobP r) = true then some (.mob (mobP r)) else none := by
  by_cases hl : r.length = 7
  · rw [if_pos (by rw [List.length_cons, hl])]
    have hd : r.drop 7 = [] := drop_nil.2 (by omega)
    unfold mobLF
    rw [show atW (h :: r) 1 = atW r 0 from rfl, show atW (h :: r) 2 = atW r 1 from rfl, show atW (h :: r) 3 = atW r 2 from rfl, show atW (h :: r) 4 = atW r 3 from rfl, show atW (h :: r) 5 = atW r 4 from rfl, show atW (h :: r) 6 = atW r 5 from rfl, show atW (h :: r) 7 = atW r 6 from rfl,
      numF_ok (atW r 0) (a := 1) (by omega), numF_ok (atW r 2) (a := 1) (by omega), numF_ok (atW r 3) (a := 1) (by omega), numF_ok (atW r 4) (a := 0) (by omega), numF_ok (atW r 5) (a := 0) (by omega), numF_ok (atW r 6) (a := 0) (by omega)]
    unfold okMobP mobP
    simp only [hd, true_and]
    by_cases g : inB (rdn (atW r 0)) 1 1000 = true ∧ inB (rdn (atW r 2)) 1 1000 = true ∧ inB (rdn (atW r 3)) 1 10000 = true ∧ inB (rdn (atW r 4)) 0 100 = true ∧ inB (rdn (atW r 5)) 0 10000 = true ∧ inB (rdn (atW r 6)) 0 gMax = true
    · obtain ⟨g1, g2, g3, g4, g5, g6⟩ := g
      rw [numF_val (atW r 0) (a := 1) (b := 1000) (by rw [numF_ok _ (by omega)]; exact g1), numF_val (atW r 2) (a := 1) (b := 1000) (by rw [numF_ok _ (by omega)]; exact g2), numF_val (atW r 3) (a := 1) (b := 10000) (by rw [numF_ok _ (by omega)]; exact g3),
        numF_val (atW r 4) (a := 0) (b := 100) (by rw [numF_ok _ (by omega)]; exact g4), numF_val (atW r 5) (a := 0) (b := 10000) (by rw [numF_ok _ (by omega)]; exact g5), numF_val (atW r 6) (a := 0) (b := gMax) (by rw [numF_ok _ (by omega)]; exact g6)]
      simp only [g1, g2, g3, g4, g5, g6]
      cases wordOk (atW r 1) <;> simp
    · rw [if_neg, if_neg]
      · intro hc; apply g; simp [Bool.and_eq_true] at hc; simp [hc]
      · intro hc; apply g; simp [Bool.and_eq_true] at hc; simp [hc]
  · rw [if_neg (by rw [List.length_cons]; omega)]
    by_cases hh : r.length ≤ 6
    · rw [if_neg]
      rintro ⟨_, h2⟩
      unfold okMobP mobP at h2
      rw [last_bad (k := 6) hh (by omega)] at h2
      simp at h2
    · rw [if_neg (fun hc => by have := drop_nil.1 hc.1; omega)]

theorem quest_same (h : ByteArray) (r : List ByteArray) : (if (h :: r).length = 6 then questF (h :: r) else none) = if r.drop 5 = [] ∧ okQuest (questP r) = true then some (.quest (questP r)) else none := by
  by_cases hl : r.length = 5
  · rw [if_pos (by rw [List.length_cons, hl])]
    have hd : r.drop 5 = [] := drop_nil.2 (by omega)
    unfold questF
    rw [show atW (h :: r) 1 = atW r 0 from rfl, show atW (h :: r) 2 = atW r 1 from rfl, show atW (h :: r) 3 = atW r 2 from rfl, show atW (h :: r) 4 = atW r 3 from rfl, show atW (h :: r) 5 = atW r 4 from rfl,
      numF_ok (atW r 0) (a := 1) (by omega), numF_ok (atW r 1) (a := 1) (by omega), numF_ok (atW r 2) (a := 1) (by omega), numF_ok (atW r 3) (a := 0) (by omega), numF_ok (atW r 4) (a := 0) (by omega)]
    unfold okQuest questP
    simp only [hd, true_and]
    by_cases g : inB (rdn (atW r 0)) 1 1000 = true ∧ inB (rdn (atW r 1)) 1 1000 = true ∧ inB (rdn (atW r 2)) 1 5 = true ∧ inB (rdn (atW r 3)) 0 gMax = true ∧ inB (rdn (atW r 4)) 0 1000 = true
    · obtain ⟨g1, g2, g3, g4, g5⟩ := g
      rw [numF_val (atW r 0) (a := 1) (b := 1000) (by rw [numF_ok _ (by omega)]; exact g1), numF_val (atW r 1) (a := 1) (b := 1000) (by rw [numF_ok _ (by omega)]; exact g2), numF_val (atW r 2) (a := 1) (b := 5) (by rw [numF_ok _ (by omega)]; exact g3),
        numF_val (atW r 3) (a := 0) (b := gMax) (by rw [numF_ok _ (by omega)]; exact g4), numF_val (atW r 4) (a := 0) (b := 1000) (by rw [numF_ok _ (by omega)]; exact g5)]
    · rw [if_neg, if_neg]
      · intro hc; apply g; simp [Bool.and_eq_true] at hc; simp [hc]
      · intro hc; apply g; simp [Bool.and_eq_true] at hc; simp [hc]
  · rw [if_neg (by rw [List.length_cons]; omega)]
    by_cases hh : r.length ≤ 4
    · rw [if_neg]
      rintro ⟨_, h2⟩
      unfold okQuest questP at h2
      rw [last_bad (k := 4) hh (by omega)] at h2
      simp at h2
    · rw [if_neg (fun hc => by have := drop_nil.1 hc.1; omega)]

theorem recipe_same (h : ByteArray) (r : List ByteArray) (hr : r ≠ []) : recipeF (h :: r) = (if okRecU (recP r) = true then some (RecI.recipe (recP r)) else none).map sortR := by
  have hl : 1 ≤ r.length := List.length_pos_iff.2 hr
  unfold recipeF
  rw [show (h :: r).drop 2 = r.drop 1 from rfl, numsF_iff 1 1000 (by omega), show atW (h :: r) 1 = atW r 0 from rfl, numF_ok (atW r 0) (a := 1) (by omega)]
  unfold okRecU recP
  by_cases g1 : inB (rdn (atW r 0)) 1 1000 = true
  · rw [numF_val (atW r 0) (a := 1) (b := 1000) (by rw [numF_ok _ (by omega)]; exact g1)]
    by_cases g2 : ((r.drop 1).map rdn).all (fun n => inB n 1 1000) = true
    · rw [if_pos g2]
      by_cases g3 : 3 ≤ (h :: r).length ∧ (h :: r).length ≤ 7
      · have e1 : 1 ≤ ((r.drop 1).map rdn).length ∧ ((r.drop 1).map rdn).length ≤ 5 := by rw [List.length_map, List.length_drop]; rw [List.length_cons] at g3; omega
        simp only [g1, g2, g3.1, g3.2, e1.1, e1.2, decide_true, Bool.and_self, if_true, Option.map_some, sortR]
      · have e1 : ¬ (1 ≤ ((r.drop 1).map rdn).length ∧ ((r.drop 1).map rdn).length ≤ 5) := by rw [List.length_map, List.length_drop]; rw [List.length_cons] at g3; omega
        have e2 : (inB (rdn (atW r 0)) 1 1000 && decide (3 ≤ (h :: r).length) && decide ((h :: r).length ≤ 7)) = false := by
          rw [g1, Bool.true_and, ← Bool.decide_and]; simp only [g3, decide_false]
        have e3 : (inB (rdn (atW r 0)) 1 1000 && (decide (1 ≤ ((r.drop 1).map rdn).length) && decide (((r.drop 1).map rdn).length ≤ 5)) && ((r.drop 1).map rdn).all (fun n => inB n 1 1000)) = false := by
          rw [g1, g2, Bool.true_and, Bool.and_true, ← Bool.decide_and]; simp only [e1, decide_false]
        rw [e2]
        simp only [e3]
        rfl
    · simp only [Bool.not_eq_true] at g2
      rw [if_neg (by rw [g2]; simp)]
      simp only [g2, Bool.and_false]
      cases (inB (rdn (atW r 0)) 1 1000 && decide (3 ≤ (h :: r).length) && decide ((h :: r).length ≤ 7)) <;> rfl
  · simp only [Bool.not_eq_true] at g1
    simp [g1]

theorem shop_same (h : ByteArray) (r : List ByteArray) (hr : r ≠ []) : (if (h :: r).length < 3 ∨ 11 < (h :: r).length then none else shopFD (h :: r)) = (if okShopU (shopP r) = true then some (RecI.shop (shopP r)) else none).map sortR := by
  have hl : 1 ≤ r.length := List.length_pos_iff.2 hr
  by_cases hn : (h :: r).length < 3 ∨ 11 < (h :: r).length
  · rw [if_pos hn, if_neg]
    · rfl
    · unfold okShopU shopP
      intro hc
      simp only [Bool.and_eq_true, decide_eq_true_eq] at hc
      rw [List.length_cons] at hn
      rcases hn with hn | hn
      · have := last_bad (l := r) (k := 1) (a := 0) (b := gMax) (by omega) (by omega)
        rw [this] at hc; simp at hc
      · have := hc.1.2
        rw [List.length_map, List.length_drop] at this; omega
  · rw [if_neg hn]
    rw [List.length_cons] at hn
    unfold shopFD
    rw [show (h :: r).drop 3 = r.drop 2 from rfl, numsF_iff 1 1000 (by omega), show atW (h :: r) 1 = atW r 0 from rfl, show atW (h :: r) 2 = atW r 1 from rfl, numF_ok (atW r 0) (a := 1) (by omega), numF_ok (atW r 1) (a := 0) (by omega)]
    unfold okShopU shopP
    have e1 : ((r.drop 2).map rdn).length ≤ 8 := by rw [List.length_map, List.length_drop]; omega
    by_cases g1 : inB (rdn (atW r 0)) 1 1000 = true
    · by_cases g2 : inB (rdn (atW r 1)) 0 gMax = true
      · rw [numF_val (atW r 0) (a := 1) (b := 1000) (by rw [numF_ok _ (by omega)]; exact g1), numF_val (atW r 1) (a := 0) (b := gMax) (by rw [numF_ok _ (by omega)]; exact g2)]
        by_cases g3 : ((r.drop 2).map rdn).all (fun n => inB n 1 1000) = true
        · simp only [g1, g2, g3, e1, decide_true, Bool.and_self, if_true, Option.map_some, sortR]
        · simp only [Bool.not_eq_true] at g3
          simp only [g1, g2, g3, Bool.and_false, Bool.and_self, if_false, Bool.false_eq_true]
          rfl
      · simp only [Bool.not_eq_true] at g2
        simp [g2]
    · simp only [Bool.not_eq_true] at g1
      simp [g1]

/-- A LINE SAYS THE SAME, needs and items sorted. -/
theorem lineW_same (h : ByteArray) (r : List ByteArray) : lineW (h :: r) = (lineU h r).map sortR := by
  unfold lineW lineU
  rw [show atW (h :: r) 0 = h from rfl]
  by_cases hr : r = []
  · subst hr
    rw [if_pos (by simp)]
    symm
    simp only [Option.map_eq_none_iff]
    split
    · rw [if_neg]; rintro ⟨_, h2⟩; exact absurd h2 (by decide)
    split
    · rw [if_neg]; rintro ⟨_, h2⟩; exact absurd h2 (by decide)
    split
    · rw [if_neg]; rintro ⟨_, h2⟩; exact absurd h2 (by decide)
    split
    · rw [if_neg]; intro h2; exact absurd h2 (by decide)
    split
    · rw [if_neg]; rintro ⟨_, h2⟩; exact absurd h2 (by decide)
    split
    · rw [if_neg]; intro h2; exact absurd h2 (by decide)
    · rfl
  · have hl : 1 ≤ r.length := List.length_pos_iff.2 hr
    rw [if_neg (by rw [List.length_cons]; omega)]
    split
    · rw [room_same]; split <;> rfl
    split
    · rw [item_same]; split <;> rfl
    split
    · rw [mob_same]; split <;> rfl
    split
    · exact recipe_same h r hr
    split
    · rw [quest_same]; split <;> rfl
    split
    · exact shop_same h r hr
    · rfl

/-- What a line says to the program's tables; none: it is no line. -/
def stepU (x : List UInt8) (D : DbM) : Option DbM :=
  match wordsL x with
  | [] => some D
  | h :: r => if x.head? = some 35 then some D else (lineU ⟨h.toArray⟩ (txts r)).map (push D)

/-- Lines from k on, as the program reads them. -/
def parseU : Nat → List (List UInt8) → DbM → Nat ⊕ DbM
  | _, [], D => .inr D
  | k, x :: r, D => match stepU x D with
    | none => .inl (k + 1)
    | some D' => parseU (k + 1) r D'

theorem parse_same : ∀ (L : List (List UInt8)) (k : Nat) (D : DbM), parseGo k L (sortN D) = match parseU k L D with | .inl n => .inl n | .inr E => .inr (sortN E)
  | [], _, _ => rfl
  | x :: L, k, D => by
    rw [parseGo, parseU]
    unfold stepU
    cases hw : wordsL x with
    | nil => rw [if_pos (.inl rfl)]; exact parse_same L (k + 1) D
    | cons h r =>
      by_cases hh : x.head? = some 35
      · rw [if_pos (.inr hh)]
        simp only [hh, if_true]
        exact parse_same L (k + 1) D
      · rw [if_neg (by simp [hh])]
        simp only [hh, if_false]
        rw [show txts (h :: r) = ⟨h.toArray⟩ :: txts r from rfl, lineW_same]
        cases lineU ⟨h.toArray⟩ (txts r) with
        | none => rfl
        | some R =>
          simp only [Option.map_some]
          rw [push_sort]
          exact parse_same L (k + 1) (push D R)

/-- Sorted, then each record's own list. -/
theorem SortOf.map {α : Type} {key : α → Int} (f : α → α) (hf : ∀ x, key (f x) = key x) {L M : List α} (h : SortOf key L M) : SortOf key (L.map f) (M.map f) :=
  ⟨h.1.map f, by rw [List.pairwise_map]; exact h.2.imp (fun hh => by rw [hf, hf]; exact hh)⟩
theorem SortDb.sorted {D M : DbM} (h : SortDb D M) : SortDb (sortN D) (sortN M) :=
  ⟨h.rooms, h.protos, h.mobs, h.recs.map (fun x : RecM => ({ x with needs := sortI x.needs } : RecM)) (fun _ => rfl), h.quests, h.shops.map (fun x : ShopM => ({ x with items := sortI x.items } : ShopM)) (fun _ => rfl)⟩

theorem SortOf.len {α : Type} {key : α → Int} {L M : List α} (h : SortOf key L M) : M.length = L.length := h.1.length_eq
/-- Two sortings of tables are refused alike, or are the same. -/
theorem check_same {D M N : DbM} (h1 : SortDb D M) (h2 : SortDb D N) : checkF M = checkF N ∧ (checkF M ≠ 13 → M = N) := by
  have r1 : RoomsOk M ↔ RoomsOk N := by unfold RoomsOk; rw [h1.rooms.rise_iff h2.rooms, h1.rooms.len, h2.rooms.len]
  have r2 : ThingsOk M ↔ ThingsOk N := by unfold ThingsOk; rw [h1.protos.rise_iff h2.protos, h1.protos.len, h2.protos.len, h1.mobs.rise_iff h2.mobs, h1.mobs.len, h2.mobs.len]
  have r3 : RestOk M ↔ RestOk N := by unfold RestOk; rw [h1.recs.rise_iff h2.recs, h1.recs.len, h2.recs.len, h1.quests.rise_iff h2.quests, h1.quests.len, h2.quests.len, h1.shops.rise_iff h2.shops, h1.shops.len, h2.shops.len]
  have r0 : M.rooms = [] ↔ N.rooms = [] := by rw [← List.length_eq_zero_iff, ← List.length_eq_zero_iff, h1.rooms.len, h2.rooms.len]
  unfold checkF
  by_cases hc : M.rooms = [] ∨ ¬ RoomsOk M ∨ ¬ ThingsOk M ∨ ¬ RestOk M
  · rw [if_pos hc, if_pos (by rw [← r0, ← r1, ← r2, ← r3]; exact hc)]
    exact ⟨rfl, fun h => absurd rfl h⟩
  · have hm : M = N := by
      have g1 : RoomsOk M := Classical.byContradiction fun h => hc (.inr (.inl h))
      have g2 : ThingsOk M := Classical.byContradiction fun h => hc (.inr (.inr (.inl h)))
      have g3 : RestOk M := Classical.byContradiction fun h => hc (.inr (.inr (.inr h)))
      cases M; cases N
      simp only [DbM.mk.injEq]
      exact ⟨h1.rooms.rise h2.rooms g1.1, h1.protos.rise h2.protos g2.1, h1.mobs.rise h2.mobs g2.2.1, h1.recs.rise h2.recs g3.1, h1.quests.rise h2.quests g3.2.1, h1.shops.rise h2.shops g3.2.2.1⟩
    subst hm
    exact ⟨rfl, fun _ => rfl⟩
end Go.Proofs.YtheaghgockafmaaGreat.Wd
