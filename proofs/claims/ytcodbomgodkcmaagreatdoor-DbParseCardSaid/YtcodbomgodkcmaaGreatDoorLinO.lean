/- Texts: pieces with their ends, and the lines that they are (no program). -/
import Derived.Test.YtcodbomgodkcmaaGreatDoorLinL
import Derived.Lib.Strings
import Derived.Lib.IndexLaws
import Derived.Lib.FieldsP
import Derived.Lib.SpaceUEq
import Derived.Test.YtcodbomgodkcmaaGreatDoorLinN
import Derived.RangeFuncOwn
import Derived.RangeFuncLeaves
import Derived.Test.YtcodbomgodkcmaaGreatDoorGen
import Derived.RangeFuncBound
import Derived.RangeFuncCalls
import Derived.RangeFuncBox
import Derived.Shelf.Abstract
import Derived.Shelf.RegionOpen
import Derived.OwnWalkIn
import Derived.TacticsInMore
import Derived.LoopNIn
import Derived.LoopIn
import Derived.Maps.AppendAt
namespace Go.Proofs.YtcodbomgodkcmaaGreatDoor.Lin
open Go.Lib

/-- Pieces with their ends, where cur stands already. -/
def rawGo : List UInt8 → List UInt8 → List (List UInt8)
  | cur, [] => if cur = [] then [] else [cur]
  | cur, c :: r => if c = 10 then (cur ++ [10]) :: rawGo [] r else rawGo (cur ++ [c]) r

theorem rawGo_ten {cur r : List UInt8} : rawGo cur (10 :: r) = (cur ++ [10]) :: rawGo [] r := by rw [rawGo, if_pos rfl]
theorem rawGo_other {cur r : List UInt8} {c : UInt8} (h : c ≠ 10) : rawGo cur (c :: r) = rawGo (cur ++ [c]) r := by rw [rawGo, if_neg h]

theorem raw_none : ∀ (r cur : List UInt8), (∀ c ∈ r, c ≠ 10) → rawGo cur r = if cur ++ r = [] then [] else [cur ++ r]
  | [], cur, _ => by simp [rawGo]
  | c :: r, cur, h => by
    rw [rawGo_other (h c (by simp)), raw_none r (cur ++ [c]) (fun x hx => h x (by simp [hx]))]
    simp
theorem raw_some : ∀ (i : Nat) (r cur : List UInt8), r[i]? = some 10 → (∀ k, k < i → r[k]? ≠ some 10) → rawGo cur r = (cur ++ r.take (i + 1)) :: rawGo [] (r.drop (i + 1))
  | 0, [], cur, h, _ => by simp at h
  | 0, c :: r, cur, h, _ => by
    obtain rfl : c = 10 := by simpa using h
    rw [rawGo_ten]; simp
  | i + 1, [], cur, h, _ => by simp at h
  | i + 1, c :: r, cur, h, hn => by
    have hc : c ≠ 10 := fun e => hn 0 (by omega) (by simp [e])
    rw [rawGo_other hc, raw_some i r (cur ++ [c]) (by simpa using h) (fun k hk => by have := hn (k + 1) (by omega); simpa using this)]
    simp

/-- One step of the iterator: the piece, and what is left. -/
theorem raw_step {r : List UInt8} (h : r ≠ []) : (∃ i : Nat, indexByte r 10 = (i : Int) ∧ i < r.length ∧ rawGo [] r = r.take (i + 1) :: rawGo [] (r.drop (i + 1))) ∨ (indexByte r 10 = -1 ∧ rawGo [] r = r :: rawGo [] []) := by
  have hg := indexByte_ge r 10
  by_cases h1 : indexByte r 10 = -1
  · refine .inr ⟨h1, ?_⟩
    rw [raw_none r [] (fun c hc e => by
      obtain ⟨k, hk, rfl⟩ := List.mem_iff_getElem.1 hc
      exact indexByte_none h1 k (by rw [List.getElem?_eq_getElem hk, e]))]
    simp [h, rawGo]
  · obtain ⟨i, hi⟩ : ∃ i : Nat, indexByte r 10 = (i : Int) := ⟨(indexByte r 10).toNat, by omega⟩
    obtain ⟨g1, g2⟩ := indexByte_some hi
    refine .inl ⟨i, hi, (List.getElem?_eq_some_iff.1 g1).1, ?_⟩
    rw [raw_some i r [] g1 g2, List.nil_append]

/-- A piece without its end. -/
def lineF (x : List UInt8) : List UInt8 := if hasSuffix x [10] = true then trimSuffix (trimSuffix x [10]) [13] else x

theorem suffix_one {x : List UInt8} {c : UInt8} : hasSuffix x [c] = true ↔ x.getLast? = some c := by
  unfold hasSuffix
  rw [List.isSuffixOf_iff_suffix]
  constructor
  · rintro ⟨t, rfl⟩; simp
  · intro h
    obtain ⟨t, ht⟩ := List.getLast?_eq_some_iff.1 h
    exact ⟨t, ht.symm⟩
theorem trim_one (x : List UInt8) (c : UInt8) : trimSuffix x [c] = if x.getLast? = some c then x.dropLast else x := by
  unfold trimSuffix
  by_cases h : x.getLast? = some c
  · rw [if_pos (suffix_one.2 h), if_pos h, List.dropLast_eq_take]; rfl
  · rw [if_neg (fun hh => h (suffix_one.1 hh)), if_neg h]

theorem lineF_ten (cur : List UInt8) : lineF (cur ++ [10]) = strip cur := by
  unfold lineF
  rw [if_pos (suffix_one.2 (by simp)), trim_one (cur ++ [10]) 10, if_pos (by simp), List.dropLast_concat, trim_one]
  rfl
theorem lineF_none {cur : List UInt8} (h : ∀ c ∈ cur, c ≠ 10) : lineF cur = cur := by
  unfold lineF
  rw [if_neg]
  intro hh
  have := suffix_one.1 hh
  exact h 10 (List.mem_of_getLast? this) rfl

theorem lines_raw : ∀ (r cur : List UInt8), (∀ c ∈ cur, c ≠ 10) → (rawGo cur r).map lineF = linesGo cur r
  | [], cur, h => by
    rw [rawGo, linesGo_end]
    by_cases e : cur = []
    · rw [if_pos e]; rfl
    · rw [if_neg e, List.map_cons, lineF_none h]; rfl
  | c :: r, cur, h => by
    by_cases e : c = 10
    · subst e
      rw [rawGo_ten, linesGo_ten, List.map_cons, lineF_ten, lines_raw r [] (fun x hx => by simp at hx)]
    · rw [rawGo_other e, linesGo_other e, lines_raw r (cur ++ [c]) (fun x hx => by simp at hx; rcases hx with hx | hx; exact h x hx; rw [hx]; exact e)]

theorem rawGo_len : ∀ (r cur : List UInt8), (rawGo cur r).length ≤ r.length + 1
  | [], cur => by rw [rawGo]; split <;> simp
  | c :: r, cur => by
    by_cases e : c = 10
    · subst e; rw [rawGo_ten]; have := rawGo_len r []; simp; omega
    · rw [rawGo_other e]; have := rawGo_len r (cur ++ [c]); simp; omega
end Go.Proofs.YtcodbomgodkcmaaGreatDoor.Lin
/- Texts: the pieces between blanks, by runes, are those by bytes (no program). -/
namespace Go.Proofs.YtcodbomgodkcmaaGreatDoor.Lin
open Go.Lib

def blankR (r : Nat) : Bool := r == 32 || r == 9

theorem blank_iff {c : UInt8} : isBlank c = true ↔ (c.toNat = 32 ∨ c.toNat = 9) := by
  unfold isBlank
  rw [Bool.or_eq_true, beq_iff_eq, beq_iff_eq]
  constructor
  · rintro (rfl | rfl) <;> simp
  · rintro (h | h)
    · exact .inl (UInt8.toNat_inj.1 (by simpa using h))
    · exact .inr (UInt8.toNat_inj.1 (by simpa using h))
theorem blankR_iff {r : Nat} : blankR r = true ↔ (r = 32 ∨ r = 9) := by unfold blankR; simp

theorem getD_at {l : List UInt8} {j : Nat} (h : j < l.length) : l.getD j 0 = l[j] := by simp [List.getD, h]

/-- A blank rune is one blank byte. -/
theorem rune_blank {s : ByteArray} {pos : Nat} (h : pos < s.data.toList.length) (hb : blankR (Utf8.decode s pos).1 = true) : (Utf8.decode s pos).2 = 1 ∧ isBlank s.data.toList[pos] = true := by
  rw [decode_N] at hb ⊢
  rw [blankR_iff] at hb
  rw [blank_iff, ← getD_at h]
  rcases decodeN_cases (s.data.toList.length - pos) (s.data.toList.getD pos 0).toNat (s.data.toList.getD (pos + 1) 0).toNat (s.data.toList.getD (pos + 2) 0).toNat (s.data.toList.getD (pos + 3) 0).toNat with
    ⟨_, e⟩ | ⟨_, _, _, g, e⟩ | ⟨_, _, _, _, g, e⟩ | ⟨g, e⟩ | e
  · rw [e] at hb ⊢; exact ⟨rfl, hb⟩
  · rw [e] at hb; simp only at hb; omega
  · rw [e] at hb; simp only at hb; omega
  · omega
  · rw [e] at hb; simp only at hb; omega

/-- Another rune has no blank byte. -/
theorem rune_other {s : ByteArray} {pos : Nat} (h : pos < s.data.toList.length) (hb : blankR (Utf8.decode s pos).1 = false) : pos + (Utf8.decode s pos).2 ≤ s.data.toList.length ∧ ∀ j (hj : pos + j < s.data.toList.length), j < (Utf8.decode s pos).2 → isBlank s.data.toList[pos + j] = false := by
  rw [decode_N] at hb ⊢
  have hc := decodeN_conts (s.data.toList.length - pos) (s.data.toList.getD pos 0).toNat (s.data.toList.getD (pos + 1) 0).toNat (s.data.toList.getD (pos + 2) 0).toNat (s.data.toList.getD (pos + 3) 0).toNat
  have h0 : isBlank s.data.toList[pos] = true → (s.data.toList.getD pos 0).toNat < 128 ∧ blankR (s.data.toList.getD pos 0).toNat = true := by
    rw [blank_iff, blankR_iff, getD_at h]; intro hh; exact ⟨by omega, hh⟩
  have hle : decodeN (s.data.toList.length - pos) (s.data.toList.getD pos 0).toNat (s.data.toList.getD (pos + 1) 0).toNat (s.data.toList.getD (pos + 2) 0).toNat (s.data.toList.getD (pos + 3) 0).toNat = ((s.data.toList.getD pos 0).toNat, 1) ∨ ¬ (s.data.toList.getD pos 0).toNat < 128 := by
    by_cases hh : (s.data.toList.getD pos 0).toNat < 128
    · left; unfold decodeN; rw [if_pos hh]
    · exact .inr hh
  generalize hd : decodeN (s.data.toList.length - pos) (s.data.toList.getD pos 0).toNat (s.data.toList.getD (pos + 1) 0).toNat (s.data.toList.getD (pos + 2) 0).toNat (s.data.toList.getD (pos + 3) 0).toNat = q at *
  obtain ⟨R, K⟩ := q
  simp only at hb hc ⊢
  have cont : ∀ j (hj : pos + j < s.data.toList.length), (s.data.toList.getD (pos + j) 0).toNat / 64 = 2 → isBlank s.data.toList[pos + j] = false := fun j hj hq => by
    rw [← Bool.not_eq_true, blank_iff, ← getD_at hj]; omega
  refine ⟨by omega, fun j hj hK => ?_⟩
  match j, hj, hK with
  | 0, hj, hK =>
    rw [← Bool.not_eq_true]
    intro hh
    obtain ⟨g1, g2⟩ := h0 hh
    rcases hle with e | e
    · cases e; rw [g2] at hb; cases hb
    · exact e g1
  | 1, hj, hK => exact cont 1 hj (hc.1 (by omega)).1
  | 2, hj, hK => exact cont 2 hj (hc.2.1 (by omega)).1
  | 3, hj, hK => exact cont 3 hj (hc.2.2.1 (by omega)).1
  | j + 4, hj, hK => omega

theorem wordsGo_skip : ∀ (k : Nat) (cur l : List UInt8), k ≤ l.length → (∀ j (hj : j < l.length), j < k → isBlank l[j] = false) → wordsGo cur l = wordsGo (cur ++ l.take k) (l.drop k)
  | 0, cur, l, _, _ => by simp
  | k + 1, cur, [], h, _ => by simp at h
  | k + 1, cur, b :: t, h, hz => by
    have h0 : isBlank b = false := hz 0 (by simp) (by omega)
    rw [wordsGo_other h0, wordsGo_skip k (cur ++ [b]) t (by simp at h; omega) (fun j hj hk => by have := hz (j + 1) (by simp; omega) (by omega); simpa using this)]
    simp

theorem spans_words (s : ByteArray) : ∀ (f pos : Nat) (st : Option Nat) (acc : List (Nat × Nat)), s.data.toList.length ≤ pos + f → pos ≤ s.data.toList.length → (∀ a, st = some a → a < pos) →
    acc.map (fun x => pieceU s.data.toList x.1 x.2) ++ wordsGo (openPiece s.data.toList st pos) (s.data.toList.drop pos) = (closeSpans s (spansFromP blankR s f pos st acc)).map (fun x => pieceU s.data.toList x.1 x.2) := by
  intro f
  have hsz : s.size = s.data.toList.length := rfl
  induction f with
  | zero =>
    intro pos st acc hf hp hst
    obtain rfl : pos = s.data.toList.length := by omega
    rw [List.drop_length, wordsGo_end]
    cases st with
    | none => simp [spansFromP, closeSpans, openPiece]
    | some a => rw [if_neg (by unfold openPiece; exact pieceU_ne _ _ _ (hst a rfl) (Nat.le_refl _))]; simp [spansFromP, closeSpans, openPiece]
  | succ f ih =>
    intro pos st acc hf hp hst
    by_cases hlt : pos < s.data.toList.length
    · unfold spansFromP
      rw [if_pos (by rw [hsz]; exact hlt)]
      have hw := width_pos s pos
      cases hb : blankR (Utf8.decode s pos).1
      · obtain ⟨hle, hno⟩ := rune_other hlt hb
        have hsk := fun cur => wordsGo_skip (Utf8.decode s pos).2 cur (s.data.toList.drop pos) (by rw [List.length_drop]; omega) (fun j hj hk => by rw [List.getElem_drop]; exact hno j (by rw [List.length_drop] at hj; omega) hk)
        rw [hsk, List.drop_drop]
        cases st with
        | none =>
          simp only [Bool.false_eq_true, if_false]
          rw [← ih _ _ _ (by omega) hle (fun a h => by cases h; omega)]
          congr 2
          show [] ++ _ = pieceU _ _ _
          unfold pieceU
          rw [List.nil_append, show pos + (Utf8.decode s pos).2 - pos = (Utf8.decode s pos).2 by omega]
        | some a =>
          simp only [Bool.false_eq_true, if_false]
          rw [← ih _ _ _ (by omega) hle (fun b h => by cases h; have := hst a rfl; omega)]
          congr 2
          show pieceU _ a pos ++ _ = pieceU _ a _
          exact pieceU_grow _ _ _ _ (by have := hst a rfl; omega)
      · obtain ⟨h1, hbl⟩ := rune_blank hlt hb
        rw [h1, List.drop_eq_getElem_cons hlt, wordsGo_blank hbl]
        cases st with
        | none =>
          simp only [if_true]
          rw [← ih _ _ _ (by omega) (by omega) (fun a h => by cases h)]
          simp [openPiece]
        | some a =>
          simp only [if_true]
          rw [← ih _ _ _ (by omega) (by omega) (fun a h => by cases h)]
          rw [if_neg (by unfold openPiece; exact pieceU_ne _ _ _ (hst a rfl) hp)]
          simp [openPiece]
    · obtain rfl : pos = s.data.toList.length := by omega
      rw [spansFromP_end _ _ _ _ _ _ (by rw [hsz]; exact hlt), List.drop_length, wordsGo_end]
      cases st with
      | none => simp [closeSpans, openPiece]
      | some a => rw [if_neg (by unfold openPiece; exact pieceU_ne _ _ _ (hst a rfl) (Nat.le_refl _))]; simp [closeSpans, openPiece]

theorem fields_words (s : ByteArray) : (goFieldsP blankR s).map (fun x => x.data.toList) = wordsL s.data.toList := by
  have h := spans_words s s.size 0 none [] (by show s.data.toList.length ≤ 0 + s.data.toList.length; omega) (Nat.zero_le _) (fun a h => by cases h)
  unfold goFieldsP spansOfP wordsL
  rw [List.map_map]
  simp only [List.map_nil, List.nil_append, List.drop_zero] at h
  rw [show openPiece s.data.toList none 0 = [] from rfl] at h
  rw [h]
  refine List.map_congr_left fun x _ => ?_
  simp only [Function.comp]
  rw [ByteArray.data_extract, Array.toList_extract, List.extract_eq_take_drop]
  rfl
end Go.Proofs.YtcodbomgodkcmaaGreatDoor.Lin
/- Texts: the program's Words. -/
namespace Go.Proofs.YtcodbomgodkcmaaGreatDoor.Lin
open Go.RowKit Go.Maps Go.Proofs.YtcodbomgodkcmaaGreatDoor
set_option maxRecDepth 100000

theorem blank_gives {w : World} : PredAt Tryz.prog 94 #[] encR blankR w := fun W r _ => by
  unfold FnGives
  by_cases h : r = 32
  · subst h
    go_enter Tryz.func94, Tryz.ntmps94
    go_wp2
    go_ret
    exact ⟨rfl, 0, rfl⟩
  · have h1 : ((r : Int) == 32) = false := by rw [beq_eq_false_iff_ne]; omega
    have hb : blankR r = decide (r = 9) := by unfold blankR; rw [show (r == 32) = false by simpa using h, Bool.false_or]; rfl
    rw [hb]
    by_cases h9 : r = 9
    · subst h9
      go_enter Tryz.func94, Tryz.ntmps94
      go_wp2
      go_ret
      exact ⟨rfl, 0, rfl⟩
    · have h2 : ((r : Int) == 9) = false := by rw [beq_eq_false_iff_ne]; omega
      rw [decide_eq_false h9]
      unfold encR
      go_enter Tryz.func94, Tryz.ntmps94
      go_wp2
      go_ret
      exact ⟨rfl, 0, rfl⟩

theorem fields_cells (s : ByteArray) : (Lib.goFieldsP blankR s).map Value.string = scells (wordsL s.data.toList) := by
  rw [← fields_words, scells, List.map_map]
  rfl
theorem fields_len (s : ByteArray) : (Lib.goFieldsP blankR s).length = (wordsL s.data.toList).length := by rw [← fields_words, List.length_map]

theorem words_any {w : World} (s : ByteArray) (hs : s.size ≤ 1000000) : Calls Tryz.prog 39 #[.string s] w (AnsL (wordsL s.data.toList) w) := by
  have H := Tryz.strings_FieldsFunc 94 #[] (enters_of Tryz.func94 (by kernel_rfl) rfl) blankR s w (by omega) blank_gives
  rw [fields_cells, fields_len] at H
  obtain ⟨L, hL⟩ : ∃ L, L = wordsL s.data.toList := ⟨_, rfl⟩
  rw [← hL] at H ⊢
  clear hL
  go_enter Tryz.func39, Tryz.ntmps39
  go_wp2_with (refine H.mono ?_; rintro e w1 ⟨g, rfl, hg, hr, hb⟩; have HR := Lib.hid hr; have HB := Lib.hid hb; have HG := Lib.hid hg; clear hr hb hg)
  go_ret
  exact ⟨_, rfl, Row.of_owns HR.out, fun b hb => by cases hb; exact HG.out, Keep.of_below HB.out⟩
end Go.Proofs.YtcodbomgodkcmaaGreatDoor.Lin
/- A range over a function whose iterator turns one box of its own between two rounds, with a body that never leaves (no program). -/
namespace Go.Proofs.YtcodbomgodkcmaaGreatDoor
open Go.RowKit
variable {F : Fence} {n : Nat} {P : Program}

theorem keep_putObj {G : Nat → Prop} (W : World) (l : Nat) (o : Obj) (h : G l) : Keep G W (W.putObj l o) :=
  ⟨rfl, rfl, rfl, by simp, fun k _ hk => World.putObj_heap_other (fun e => hk (e ▸ h))⟩

/-- How a round may end: at its body's end, nothing turned of the iterator's box and of the two blocks of the loop. -/
def roundEnd {α : Type} (Bs m : Nat) (I : List α → World → Prop) (xs : List α) (W : World) : Exit → Act → World → Prop
  | .normal, _, W' => Keep (fun b => b ≠ Bs ∧ b ≠ m ∧ b ≠ m + 1) W W' ∧ I xs W'
  | _, _, _ => False

/-- What the iterator owes: it hands over S, in its order, and turns its own box alone. -/
def HandsAll {α : Type} (F : Fence) (n : Nat) (P : Program) (gf : Nat) (lb : Array Value) (encs : α → Array Value) (Bs : Nat) (S : List α) (w : World) : Prop :=
  ∀ (l : Nat) (J : List α → World → Prop) (W : World), W.heap[Bs]? = w.heap[Bs]? → (∀ s X Y, J s X → Keep (fun b => b = Bs) X Y → J s Y) →
    (∀ pre x X, J pre X → pre ++ [x] <+: S → YieldAt F (n - 1) P l (encs x) X fun e Y => e = .returned (.bool true) ∧ J (pre ++ [x]) Y ∧ Y.heap[Bs]? = X.heap[Bs]?) →
    J [] W → CallsIn F n P gf (#[.func (.yield l) #[] #[]] ++ lb) W fun e Y => (∃ v, e = .returned v) ∧ J S Y

theorem range_box {α : Type} {g : Operand} {ps : Array Tmp} {assign body : Code} {Q : Exit → Act → World → Prop} {a : Act} {w : World} {Bs : Nat} {S : List α} {gf : Nat} {lb : Array Value} {encs : α → Array Value}
    (hro : F.round = none) (h1 : 1 ≤ n) (hg : a.eval g = .func (.func gf) #[] lb) (hFg : F.fn gf) (eg : ∀ args w, (callFunc gf args).run P w = .ok (.enter gf args) w)
    (hseq : HandsAll F (n - 1) P gf lb encs Bs S w) (hBs : Bs < w.heap.size) (hps : ∀ x, (encs x).size = ps.size)
    (I : List α → World → Prop) (hI : ∀ s X Y, I s X → Keep (fun b => b = Bs ∨ b = w.heap.size ∨ b = w.heap.size + 1) X Y → I s Y)
    (h0 : I [] w) (a₁ : α → Act)
    (hassign : ∀ (l : Nat) (x : α) (W : World) (K : Act → World → Prop), K (a₁ x) W →
      assign.wpIn (F.inRound l) (n - 1 - 1) P (Exit.then K (fun _ _ _ => False)) { tmps := (ps.zip (encs x)).foldl (fun t (p, v) => t.setIfInBounds p v) a.tmps, defers := [] } W)
    (hbody : ∀ (l : Nat) (pre : List α) (x : α) (W : World), I pre W → pre ++ [x] <+: S → w.heap.size + 2 ≤ W.heap.size → body.wpIn (F.inRound l) (n - 1 - 1) P (roundEnd Bs w.heap.size I (pre ++ [x]) W) (a₁ x) W)
    (hdone : ∀ (W : World), I S W → w.heap.size + 2 ≤ W.heap.size → W.heap[w.heap.size]? = some (.deferred (some [])) → Q .normal { a with defers := { target := .collected w.heap.size, args := #[] } :: a.defers } W) :
    (Code.rangeFunc g ps assign body).wpIn F n P Q a w := by
  obtain ⟨m, hm⟩ : ∃ m, w.heap.size = m := ⟨_, rfl⟩
  rw [hm] at hI hbody hdone hBs
  refine wpIn_rangeFunc fun fn hfn => ?_
  rw [hro]
  -- the loop's record, by its state
  let L : LoopState → Option Code → Loop := fun st pe => { state := st, pending := pe, fn, tmps := a.tmps, params := ps, assign, body, defers := m }
  let W1 : World := (w.alloc (.deferred (some []))).alloc (.loop (L .ready none))
  let J : List α → World → Prop := fun s X => I s X ∧ X.heap[m + 1]? = some (.loop (L .ready none)) ∧ X.heap[m]? = some (.deferred (some [])) ∧ m + 2 ≤ X.heap.size
  have keepAll : ∀ {G : Nat → Prop} {X Y : World}, Keep G X Y → ∀ {k o}, X.heap[k]? = some o → ¬ G k → Y.heap[k]? = some o := fun hk k o ho hG =>
    (hk.block k (Array.getElem?_eq_some_iff.1 ho).1 hG).trans ho
  have hb1 : W1.heap[m + 1]? = some (.loop (L .ready none)) := by
    have := World.alloc_heap_new (w.alloc (.deferred (some []))) (.loop (L .ready none))
    rwa [World.size_alloc, hm] at this
  have hb0 : W1.heap[m]? = some (.deferred (some [])) := by
    have := World.alloc_heap_new w (.deferred (some []))
    rw [hm] at this
    exact keepAll (G := fun _ => False) ((Keep.refl _ (w.alloc (.deferred (some [])))).alloc _) this (fun h => h)
  have hKw : Keep (fun _ => False) w W1 := ((Keep.refl (fun _ => False) w).alloc _).alloc _
  have hJ0 : J [] W1 := ⟨hI _ _ _ h0 (hKw.mono fun _ _ h => h.elim), hb1, hb0, by show m + 2 ≤ W1.heap.size; simp only [W1, World.size_alloc, hm]; omega⟩
  have henter := run_enterLoop_outer (P := P) (w := w) fn a.tmps ps assign body
  rw [hm] at henter
  refine ⟨m + 1, [{ target := .collected m, args := #[] }], W1, { target := .fn (.func gf) lb, args := #[.func (.yield (m + 1)) #[] #[]] }, W1, gf, #[.func (.yield (m + 1)) #[] #[]] ++ lb, W1, henter, ?_, ?_, ?_, fun _ => h1, ?_⟩
  · simp only [resolve, hg]; simp [go_sem]
  · intro f hf; simp only [Target.leads, Option.some.injEq] at hf; subst hf; exact hFg
  · simp [invoke, go_sem, eg]
  refine (hseq (m + 1) J W1 (hKw.block Bs (by omega) (fun h => h)) ?_ ?_ hJ0).mono ?_
  · rintro s X Y ⟨x1, x2, x3, x4⟩ hk
    exact ⟨hI _ _ _ x1 (hk.mono fun _ _ h => .inl h), keepAll hk x2 (by omega), keepAll hk x3 (by omega), Nat.le_trans x4 hk.size⟩
  · -- a round
    rintro pre x X ⟨x1, x2, x3, x4⟩ hpre
    have hy := run_yield (P := P) (args := encs x) x2 (hps x)
    refine ⟨fn, _, assign, body, hy, roundIn_of_wpIn hfn (hassign _ x X _ ⟨_, run_beginRound x2 rfl, ?_⟩)⟩
    obtain ⟨Y, hY⟩ : ∃ Y, X.putObj (m + 1) (.loop (L .busy none)) = Y := ⟨_, rfl⟩
    have kY : Keep (fun b => b = m + 1) X Y := by rw [← hY]; exact keep_putObj _ _ _ rfl
    have y2 : Y.heap[m + 1]? = some (.loop (L .busy none)) := by rw [← hY]; exact World.putObj_heap_same (by omega)
    have y1 : I pre Y := hI _ _ _ x1 (kY.mono fun _ _ h => .inr (.inr h))
    refine wpIn_mono (Q := roundEnd Bs m I (pre ++ [x]) Y) (by have := hbody (m + 1) pre x Y y1 hpre (by have := kY.size; omega); rw [← hY] at this ⊢; exact this) ?_
    intro e a3 Z hz
    cases e with
    | normal =>
      obtain ⟨kZ, z1⟩ := hz
      have z2 := keepAll kZ y2 (by simp)
      have z3 := keepAll kZ (keepAll kY x3 (by omega)) (by simp)
      have hr : (Instr.endRound (m + 1) none).run P Z = .ok (.bool true) (Z.putObj (m + 1) (.loop (L .ready none))) := run_endRound (P := P) none z2
      have kE : Keep (fun b => b = m + 1) Z (Z.putObj (m + 1) (.loop (L .ready none))) := keep_putObj _ _ _ rfl
      refine ⟨_, _, hr, rfl, ⟨hI _ _ _ z1 (kE.mono fun _ _ h => .inr (.inr h)), World.putObj_heap_same (by have := kZ.size; have := kY.size; omega), keepAll kE z3 (by omega), ?_⟩, ?_⟩
      · have := kZ.size; have := kY.size; have := kE.size; omega
      · exact (kE.block Bs (by have := kZ.size; have := kY.size; omega) (by omega)).trans ((kZ.block Bs (by have := kY.size; omega) (by simp)).trans (kY.block Bs (by omega) (by omega)))
    | ret => exact hz.elim
    | exit id => exact hz.elim
    | goto t => exact hz.elim
    | panic ch => exact hz.elim
    | outgrown => exact hz.elim
  · rintro e Y ⟨⟨v, rfl⟩, y1, y2, y3, y4⟩
    have hr : (Instr.endLoop (m + 1)).run P Y = .ok none (Y.putObj (m + 1) (.loop (L .exhausted none))) := run_endLoop (P := P) y2 (by simp [L])
    have kE : Keep (fun b => b = m + 1) Y (Y.putObj (m + 1) (.loop (L .exhausted none))) := keep_putObj _ _ _ rfl
    exact ⟨none, _, hr, hdone _ (hI _ _ _ y1 (kE.mono fun _ _ h => .inr (.inr h))) (by have := kE.size; omega) (keepAll kE y3 (by omega))⟩
end Go.Proofs.YtcodbomgodkcmaaGreatDoor
/- Texts: strings.Lines hands over the pieces with their ends, one behind the other. -/
namespace Go.Proofs.YtcodbomgodkcmaaGreatDoor.Lin
open Go.RowKit Go.Maps Go.Proofs.YtcodbomgodkcmaaGreatDoor Go.Shelf
set_option maxRecDepth 100000
attribute [local go_sem] Oper.semAt_some

/-- How long is the text in a box? -/
def boxLen (w : World) (B : Nat) : Nat := match w.cell? ⟨B, 0, none⟩ with
  | some (.string s) => s.size
  | _ => 0

theorem i64_nat (n : Nat) (h : n < 9223372036854775808) : IntKind.i64.wrap (n : Int) = (n : Int) := by
  simp [IntKind.wrap, IntKind.bits, IntKind.signed]; omega

theorem str_ne {r : List UInt8} (h : r ≠ []) : 0 < r.length := List.length_pos_iff.2 h

set_option maxHeartbeats 4000000 in
theorem linesSeq_any (n : Nat) (hn : 1 ≤ n) (Bs : Nat) (s : List UInt8) (hs : s.length ≤ 1000000) (w : World) (hb : Boxed w Bs 9 (.string ⟨s.toArray⟩)) :
    HandsAll Fence.wide n Tryz.prog 89 #[.pointer (some ⟨Bs, 0, none⟩)] (fun x : List UInt8 => #[Value.string ⟨x.toArray⟩]) Bs (rawGo [] s) w := by
  intro l J W hW hJ hY h0
  have hBW : Boxed W Bs 9 (.string ⟨s.toArray⟩) := hW.trans hb
  have HJ := Lib.hid hJ
  have HY := Lib.hid hY
  clear hJ hY hW hb
  refine callsIn_of_wp Tryz.func89 rfl trivial ?_ rfl
  simp only [Tryz.ntmps89, List.size_toArray, List.length_cons, List.length_nil, Nat.reduceAdd, Nat.reduceSub, Array.replicate_succ, Array.replicate_zero, List.push_toArray, List.append_toArray, List.nil_append, List.cons_append]
  gi_wp2
  gi_loopw [3] (fun _ wr => ∃ (pre : List (List UInt8)) (r : List UInt8), rawGo [] s = pre ++ rawGo [] r ∧ r.length ≤ 1000000 ∧ Boxed wr Bs 9 (.string ⟨r.toArray⟩) ∧ J pre wr) (fun _ wr => boxLen wr Bs)
  case atStart => exact ⟨[], s, rfl, hs, hBW, h0⟩
  case round =>
    obtain ⟨pre, r, hx, hrl, hbr, hJr⟩ := hrel
    have hc := hbr.cell
    have hf := hbr.frozen
    by_cases hr : r = []
    · subst hr
      have hz : ({ data := #[] } : ByteArray).size = 0 := rfl
      gi_wp2
      go_end0
      exact ⟨⟨_, rfl⟩, by rw [hx]; simpa [rawGo] using hJr⟩
    · have hlen := str_ne hr
      obtain ⟨t, ht⟩ : ∃ t : ByteArray, t = ⟨r.toArray⟩ := ⟨_, rfl⟩
      have hts : t.size = r.length := by rw [ht]; rfl
      rw [← ht] at hc
      have HTT := Lib.hid ht
      have hd : decide (0 < t.size) = true := by rw [decide_eq_true_eq]; omega
      have hd' : decide (0 < (t.size : Int)) = true := by rw [decide_eq_true_eq]; omega
      have HL := Lib.hid hrl
      have HLE := Lib.hid hlen
      have HS := Lib.hid hts
      have HIX := Tryz.strings_IndexByte t 10 wr
      rw [show t.data.toList = r by rw [ht]] at HIX
      rcases raw_step hr with ⟨i, hi, hir, hs1⟩ | ⟨hi, hs1⟩
      · rw [show ((10 : Int).toNat.toUInt8) = 10 from rfl, hi] at HIX
        have HI := Lib.hid hir
        clear hrl hlen hts ht hi
        have hg : decide (0 ≤ (i : Int)) = true := by rw [decide_eq_true_eq]; omega
        have hwr : IntKind.i64.wrap ((i : Int) + 1) = (i : Int) + 1 := by have := HI.out; have := HL.out; exact i64_nat (i + 1) (by omega)
        have hsl : (i : Int) + 1 ≤ (t.size : Int) := by have := HI.out; have := HS.out; omega
        gi_wp2_with (refine ⟨trivial, ?_⟩; gi_at_call 90; refine (callsIn_wide.2 HIX).mono ?_; rintro e w1 ⟨rfl, rfl⟩)
        gi_region
        all_goals
          have eA : (⟨(r.take (i + 1)).toArray⟩ : ByteArray) = t.extract 0 (i + 1) := by
            rw [HTT.out]; apply ByteArray.ext; rw [ByteArray.data_extract]; simp
          have eB : (⟨(r.drop (i + 1)).toArray⟩ : ByteArray) = t.extract (i + 1) t.size := by
            rw [HS.out, HTT.out]; apply ByteArray.ext; rw [ByteArray.data_extract]; apply Array.ext'; rw [Array.toList_extract, List.extract_eq_take_drop]; simp only []; rw [List.take_of_length_le (by simp)]
          have K0 : Keep (fun b => b = Bs) w1 (w1.setCell ⟨Bs, 0, none⟩ (.string (t.extract (i + 1) t.size))).drew := (Keep.setCell (Keep.refl (fun b => b = Bs) w1) ⟨Bs, 0, none⟩ _ (.inl rfl)).drew
          obtain ⟨fn, tmps, assign, body, hy, hR⟩ := HY.out pre (r.take (i + 1)) _ (HJ.out _ _ _ hJr K0) (by rw [hx, hs1]; exact ⟨rawGo [] (r.drop (i + 1)), by simp⟩)
          rw [eA] at hy
          have HR := Lib.hid hR
          have hbx : Boxed (w1.setCell ⟨Bs, 0, none⟩ (.string (t.extract (i + 1) t.size))).drew Bs 9 (.string (t.extract (i + 1) t.size)) := hbr.set _
          have HBX := Lib.hid hbx
          have HBL := Lib.hid hc
          have HEB := Lib.hid eB
          clear hR K0 hbx eA eB
          gi_wp2
          refine HR.out.mono ?_
          rintro e W3 ⟨rfl, hJ3, hB3⟩
          have hb3 : Boxed W3 Bs 9 (.string ⟨(r.drop (i + 1)).toArray⟩) := by rw [HEB.out]; exact hB3.trans HBX.out
          gi_wp2
          go_roundw
          case rel => exact ⟨pre ++ [r.take (i + 1)], r.drop (i + 1), by rw [hx, hs1]; simp, by rw [List.length_drop]; have := HL.out; omega, hb3, hJ3⟩
          case measure =>
            unfold boxLen
            rw [hb3.cell, HBL.out]
            simp only [HS.out]
            show (r.drop (i + 1)).length < r.length
            rw [List.length_drop]; have := HI.out; omega
      · rw [show ((10 : Int).toNat.toUInt8) = 10 from rfl, hi] at HIX
        clear hrl hlen hts ht hi
        have K0 : Keep (fun b => b = Bs) wr (wr.setCell ⟨Bs, 0, none⟩ (.string ⟨#[]⟩)) := Keep.setCell (Keep.refl (fun b => b = Bs) wr) ⟨Bs, 0, none⟩ _ (.inl rfl)
        obtain ⟨fn, tmps, assign, body, hy, hR⟩ := HY.out pre r _ (HJ.out _ _ _ hJr K0) (by rw [hx, hs1]; exact ⟨rawGo [] [], by simp⟩)
        rw [← HTT.out] at hy
        have HR := Lib.hid hR
        have hbx : Boxed (wr.setCell ⟨Bs, 0, none⟩ (.string ⟨#[]⟩)) Bs 9 (.string ⟨#[]⟩) := hbr.set _
        have HBX := Lib.hid hbx
        have HBL := Lib.hid hc
        clear hR K0 hbx
        gi_wp2_with (refine ⟨trivial, ?_⟩; gi_at_call 90; refine (callsIn_wide.2 HIX).mono ?_; rintro e w1 ⟨rfl, rfl⟩)
        refine HR.out.mono ?_
        rintro e W3 ⟨rfl, hJ3, hB3⟩
        have hb3 : Boxed W3 Bs 9 (.string ⟨#[]⟩) := hB3.trans HBX.out
        gi_wp2
        go_roundw
        case rel => exact ⟨pre ++ [r], [], by rw [hx, hs1]; simp, by simp, hb3, hJ3⟩
        case measure =>
          unfold boxLen
          rw [hb3.cell, HBL.out]
          simp only [HS.out]
          exact HLE.out
end Go.Proofs.YtcodbomgodkcmaaGreatDoor.Lin
/- Texts: the program's Lines. -/
namespace Go.Proofs.YtcodbomgodkcmaaGreatDoor.Lin
open Go.RowKit Go.Maps Go.Proofs.YtcodbomgodkcmaaGreatDoor Go.Shelf
set_option maxRecDepth 100000

theorem strLines_any {w : World} (s : ByteArray) : Calls Tryz.prog 36 #[.string s] w fun e w' => e = .returned (.func (.func 89) #[] #[.pointer (some ⟨w.heap.size, 0, none⟩)]) ∧ w' = w.alloc (.cells #[.string s] 9) := by
  go_enter Tryz.func36, Tryz.ntmps36
  go_wp2
  go_ret
  exact ⟨rfl, rfl⟩

theorem trim_len (x p : List UInt8) : (Lib.trimSuffix x p).length ≤ x.length := by
  unfold Lib.trimSuffix
  split
  · rw [List.length_take]; omega
  · exact Nat.le_refl _
theorem rawGo_each : ∀ (r cur : List UInt8), ∀ x ∈ rawGo cur r, x.length ≤ cur.length + r.length
  | [], cur, x, h => by
    rw [rawGo] at h
    split at h
    · cases h
    · simp at h; rw [h]; simp
  | c :: r, cur, x, h => by
    by_cases e : c = 10
    · subst e
      rw [rawGo_ten] at h
      rcases List.mem_cons.1 h with h | h
      · rw [h]; simp
      · have := rawGo_each r [] x h; simp at this ⊢; omega
    · rw [rawGo_other e] at h
      have := rawGo_each r (cur ++ [c]) x h
      simp at this ⊢; omega
theorem rawGo_mem_len {s : List UInt8} {pre : List (List UInt8)} {x : List UInt8} (hs : s.length ≤ 1000000) (h : pre ++ [x] <+: rawGo [] s) : x.length ≤ 1000000 := by
  have := rawGo_each s [] x (h.subset (by simp))
  simp at this; omega

attribute [local go_sem] Oper.semAt_some

/-- Between two rounds: the list's box holds the lines that came. -/
structure LiI (w0 : World) (B : Nat) (pre : List (List UInt8)) (W : World) : Prop where
  ex : ∃ v, Boxed W w0.heap.size 57 v ∧ W.ownsRow B 9 1 v pre.length (scells (pre.map lineF))
  keep : Keep (fun _ => False) w0 W

theorem LiI.kept {w0 : World} {B : Nat} (hB : w0.heap.size + 4 = B) {pre : List (List UInt8)} {X Y : World} (h : LiI w0 B pre X) (k : Keep (fun b => b = w0.heap.size + 1 ∨ b = w0.heap.size + 2 ∨ b = w0.heap.size + 2 + 1) X Y) : LiI w0 B pre Y := by
  obtain ⟨v, hv, hr⟩ := h.ex
  refine ⟨⟨v, (k.block _ hv.lt (by omega)).trans hv, ownsRow_same hr (fun b hb => ?_)⟩, h.keep.trans k (fun i hi => .inr (by omega))⟩
  obtain ⟨h1, h2⟩ := hr.lt b hb
  exact k.block b h2 (by omega)

set_option maxHeartbeats 4000000 in
theorem lines_any {w : World} (s : ByteArray) (hs : s.size ≤ 1000000) : Calls Tryz.prog 16 #[.string s] w (AnsL (linesL s.data.toList) w) := by
  obtain ⟨i0, hi, hz0, hz1, hz2⟩ := info_parts Tryz.infoS
  have HW : Hid (w = w) := Lib.hid rfl
  refine (callsIn_wide (n := 12)).1 ?_
  refine callsIn_of_wp_marks Tryz.func16 rfl trivial ?_ rfl
  simp only [Tryz.ntmps16, List.size_toArray, List.length_cons, List.length_nil, Nat.reduceAdd, Nat.reduceSub, Array.replicate_succ, Array.replicate_zero, List.push_toArray, List.append_toArray, List.nil_append, List.cons_append]
  gi_wp2_with (refine ⟨trivial, ?_⟩; gi_at_call 36; refine (callsIn_wide.2 (strLines_any s)).mono ?_; rintro e w' ⟨rfl, rfl⟩)
  have bL0 := Boxed.new w 57 (.slice none 0 0)
  have bS := Boxed.new (w.alloc (.cells #[.slice none 0 0] 57)) 9 (.string s)
  rw [World.size_alloc] at bS
  have bL := bL0.alloc (.cells #[.string s] 9)
  have k0 : Keep (fun _ => False) w ((w.alloc (.cells #[.slice none 0 0] 57)).alloc (.cells #[.string s] 9)) := ((Keep.refl _ w).alloc _).alloc _
  have hsz : ((w.alloc (.cells #[.slice none 0 0] 57)).alloc (.cells #[.string s] 9)).heap.size = w.heap.size + 2 := by simp
  generalize (w.alloc (.cells #[.slice none 0 0] 57)).alloc (.cells #[.string s] 9) = W0 at bS bL k0 hsz ⊢
  clear bL0
  have hraw : (rawGo [] s.data.toList).length ≤ 1000001 := by have := rawGo_len s.data.toList []; rw [str_len] at this; omega
  have hlin : (rawGo [] s.data.toList).map lineF = linesL s.data.toList := lines_raw _ _ (fun c hc => by simp at hc)
  have eS : (⟨s.data.toList.toArray⟩ : ByteArray) = s := str_eta s
  refine range_box (n := 12) (Bs := w.heap.size + 1) (S := rawGo [] s.data.toList) (gf := 89) (lb := #[.pointer (some ⟨w.heap.size + 1, 0, none⟩)]) (encs := fun x : List UInt8 => #[Value.string ⟨x.toArray⟩]) rfl (by omega) rfl trivial (enters_of Tryz.func89 (by kernel_rfl) rfl)
    (linesSeq_any 11 (by omega) (w.heap.size + 1) s.data.toList (by rw [str_len]; exact hs) W0 (by rw [eS]; exact bS)) (by omega) (fun _ => rfl)
    (LiI w (w.heap.size + 4)) (fun pre X Y h k => h.kept rfl (k.mono fun b _ hb => by rw [hsz] at hb; exact hb)) ⟨⟨_, bL, World.ownsRow_nil _ _ _ _⟩, k0⟩
    (fun x => { tmps := #[.string s, undef, .slice none 0 0, .pointer (some ⟨w.heap.size, 0, none⟩), .string ⟨x.toArray⟩, undef, undef, .string s, .func (.func 89) #[] #[.pointer (some ⟨w.heap.size + 1, 0, none⟩)], .string ⟨x.toArray⟩, undef, undef, undef, undef, undef, undef, undef, undef, undef, undef, undef, undef, undef], defers := [] }) ?assign ?body ?done
  case assign =>
    intro l x W K hK
    gi_wp2
    exact hK
  case done =>
    intro W hI hge hD
    obtain ⟨v, hv, hr⟩ := hI.ex
    have hc := hv.cell
    have HI := Lib.hid hI
    have HR := Lib.hid hr
    clear hI hr hv
    gi_wp2
    rw [hsz] at hD
    refine ⟨by simp, .inl ⟨_, _, rfl, run_takeDeferred hD, ?_⟩⟩
    have KP : Keep (fun b => b = w.heap.size + 2) W (W.putObj (w.heap.size + 2) (.deferred none)) := keep_putObj _ _ _ rfl
    have hr2 := ownsRow_same HR.out (w' := W.putObj (w.heap.size + 2) (.deferred none)) (fun b hb => KP.block b (HR.out.lt b hb).2 (by have := (HR.out.lt b hb).1; omega))
    rw [hlin] at hr2
    refine ⟨_, results_tmp rfl _ _ _, v, rfl, ?_, fun b hb => by have := (hr2.lt b hb).1; omega, HI.out.keep.trans KP (fun i hi => .inr (by omega))⟩
    have := Row.of_owns hr2
    rw [← hlin, List.length_map, hlin]
    exact this
  case body =>
    intro l pre x W hI hpre hge
    obtain ⟨v, hv, hr⟩ := hI.ex
    have hplen : pre.length + 1 ≤ 1000001 := by
      have := hpre.length_le; rw [List.length_append, List.length_singleton] at this; omega
    have HXL : Hid (x.length ≤ 1000000) := Lib.hid (rawGo_mem_len (by rw [str_len]; exact hs) hpre)
    obtain ⟨t, ht⟩ : ∃ t : ByteArray, t = ⟨x.toArray⟩ := ⟨_, rfl⟩
    rw [← ht]
    have hc := hv.cell
    have HI := Lib.hid hI
    have HR := Lib.hid hr
    have HV := Lib.hid hv
    have HT := Lib.hid ht
    clear hI hr hv ht
    have hm : (pre.length + 1 : Nat) ≤ maxLen := by unfold maxLen; omega
    -- the end of a round, whatever line is put
    have HEND : Hid (∀ (u : ByteArray) (v' : Value) (w2 : World), lineF x = u.data.toList → w2.ownsRow (w.heap.size + 4) 9 1 v' (pre.length + 1) (scells (pre.map lineF) ++ [.string u]) →
        (W.alloc (.cells #[.string u] 9)).grownBy w2 v.ownBlock → Boxed w2 w.heap.size 57 v ∧
        (Keep (fun b => b ≠ w.heap.size + 1 ∧ b ≠ W0.heap.size ∧ b ≠ W0.heap.size + 1) W (w2.setCell ⟨w.heap.size, 0, none⟩ v') ∧ LiI w (w.heap.size + 4) (pre ++ [x]) (w2.setCell ⟨w.heap.size, 0, none⟩ v'))) := Lib.hid (by
      intro u v' w2 hu hown hgr
      have hv1 : Boxed w2 w.heap.size 57 v := (HV.out.alloc _).kept hgr (HV.out.not_row (by decide) HR.out)
      have KK : Keep (fun b => b = w.heap.size ∨ w.heap.size + 4 ≤ b) W (w2.setCell ⟨w.heap.size, 0, none⟩ v') := Keep.setCell (((Keep.refl _ W).alloc _).grown hgr (fun k hk => .inl (.inr (HR.out.lt k hk).1))) _ _ (.inl (.inl rfl))
      refine ⟨hv1, KK.mono (fun b _ hb => by rw [hsz]; omega), ⟨v', hv1.set v', ?_⟩, HI.out.keep.trans KK (fun b hb => .inr (by omega))⟩
      have h2 := ownsRow_same hown (w' := w2.setCell ⟨w.heap.size, 0, none⟩ v') (fun b hb => Below.heap_setCell _ _ _ b (by have := (hown.lt b hb).1; show b ≠ w.heap.size; omega))
      rw [List.length_append, List.length_singleton, List.map_append, scells_append]
      rw [show scells ([x].map lineF) = [.string u] by unfold scells; rw [List.map_singleton, List.map_singleton, hu, str_eta]]
      exact h2)
    cases hx : Lib.hasSuffix x [10] with
    | false =>
      have C1 := Tryz.strings_CutSuffix t ⟨#[10]⟩ W (by have := HXL.out; rw [HT.out]; show x.length ≤ _; omega)
      rw [show t.data.toList = x by rw [HT.out], show (⟨#[10]⟩ : ByteArray).data.toList = [10] from rfl, hx] at C1
      have HL : Hid (lineF x = t.data.toList) := Lib.hid (by unfold lineF; rw [hx, HT.out]; rfl)
      gi_wp2_with (first
        | (refine ⟨trivial, ?_⟩; gi_at_call 37; refine (CallsIn.inRound l (callsIn_wide.2 C1)).mono ?_; rintro e w1 ⟨rfl, rfl⟩)
        | (gi_at_builtin; refine wpListIn_append_own _ rfl _ _ 57 rfl (w.heap.size + 4) 9 i0 (.string ⟨#[]⟩) 1 16 Tryz.underlying57 hi hz0 hz1 hz2 rfl (by decide) _ _ _ rfl (HR.out.alloc _) ⟨_, 0, none⟩ 1 1 [.string t] rfl rfl (cell_one_new _ _ _) (by simp [Value.oneCell']) hm (by omega) (by rw [World.size_alloc]; omega) ?_; intro v' w2 hown' hgrow _; obtain ⟨hv1, HE1, HE2⟩ := HEND.out t v' w2 HL.out hown' hgrow; obtain ⟨g', cap', rfl⟩ := ownsRow_succ hown'; have hc1 := hv1.cell; have hf1 := hv1.frozen; have HE := Lib.hid (And.intro HE1 HE2); clear HE1 HE2 hown' hgrow hv1))
      exact HE.out
    | true =>
      have C1 := Tryz.strings_CutSuffix t ⟨#[10]⟩ W (by have := HXL.out; rw [HT.out]; show x.length ≤ _; omega)
      rw [show t.data.toList = x by rw [HT.out], show (⟨#[10]⟩ : ByteArray).data.toList = [10] from rfl, hx] at C1
      obtain ⟨q, hq⟩ : ∃ q : ByteArray, q = ⟨(Lib.trimSuffix x [10]).toArray⟩ := ⟨_, rfl⟩
      have C2 := Tryz.strings_TrimSuffix q ⟨#[13]⟩ W (by have := HXL.out; have h2 := trim_len x [10]; rw [hq]; show (Lib.trimSuffix x [10]).length ≤ _; omega)
      rw [show q.data.toList = Lib.trimSuffix x [10] by rw [hq], show (⟨#[13]⟩ : ByteArray).data.toList = [13] from rfl] at C2
      rw [← hq] at C1
      obtain ⟨u, hu⟩ : ∃ u : ByteArray, u = ⟨(Lib.trimSuffix (Lib.trimSuffix x [10]) [13]).toArray⟩ := ⟨_, rfl⟩
      rw [← hu] at C2
      have HL : Hid (lineF x = u.data.toList) := Lib.hid (by unfold lineF; rw [hx, hu, if_pos rfl])
      clear hq hu hx
      gi_wp2_with (first
        | (refine ⟨trivial, ?_⟩; gi_at_call 37; refine (CallsIn.inRound l (callsIn_wide.2 C1)).mono ?_; rintro e w1 ⟨rfl, rfl⟩)
        | (refine ⟨trivial, ?_⟩; gi_at_call 38; refine (CallsIn.inRound l (callsIn_wide.2 C2)).mono ?_; rintro e w1 ⟨rfl, rfl⟩)
        | (gi_at_builtin; refine wpListIn_append_own _ rfl _ _ 57 rfl (w.heap.size + 4) 9 i0 (.string ⟨#[]⟩) 1 16 Tryz.underlying57 hi hz0 hz1 hz2 rfl (by decide) _ _ _ rfl (HR.out.alloc _) ⟨_, 0, none⟩ 1 1 [.string u] rfl rfl (cell_one_new _ _ _) (by simp [Value.oneCell']) hm (by omega) (by rw [World.size_alloc]; omega) ?_; intro v' w2 hown' hgrow _; obtain ⟨hv1, HE1, HE2⟩ := HEND.out u v' w2 HL.out hown' hgrow; obtain ⟨g', cap', rfl⟩ := ownsRow_succ hown'; have hc1 := hv1.cell; have hf1 := hv1.frozen; have HE := Lib.hid (And.intro HE1 HE2); clear HE1 HE2 hown' hgrow hv1))
      exact HE.out
end Go.Proofs.YtcodbomgodkcmaaGreatDoor.Lin
