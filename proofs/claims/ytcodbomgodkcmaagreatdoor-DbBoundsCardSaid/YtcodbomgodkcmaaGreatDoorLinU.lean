/- Texts: the pieces between blanks, by runes, are those by bytes (no program). -/
import Derived.Test.YtcodbomgodkcmaaGreatDoorLinM
import Derived.Lib.FieldsP
import Derived.Lib.SpaceUEq
namespace Go.Proofs.YtcodbomgodkcmaaGreatDoor.Lin
open Go.Lib

def blankR (r : Nat) : Bool := r == 32 || r == 9

theorem blank_iff {c : UInt8} : isBlank c = true ↔ (c.toNat = 32 ∨ c.toNat = 9) := by
  unfold isBlank
  rw [Bool.or_eq_true, beq_iff_eq, beq_iff_eq]
  constructor
  · rintro (rfl | rfl) <;> simp
  · rintro (h | h)
    · exact .inl (UInt8.toNat_inj.1 (by simpa using h))
    · exact .inr (UInt8.toNat_inj.1 (by simpa using h))
theorem blankR_iff {r : Nat} : blankR r = true ↔ (r = 32 ∨ r = 9) := by unfold blankR; simp

theorem getD_at {l : List UInt8} {j : Nat} (h : j < l.length) : l.getD j 0 = l[j] := by simp [List.getD, h]

/-- A blank rune is one blank byte. -/
theorem rune_blank {s : ByteArray} {pos : Nat} (h : pos < s.data.toList.length) (hb : blankR (Utf8.decode s pos).1 = true) : (Utf8.decode s pos).2 = 1 ∧ isBlank s.data.toList[pos] = true := by
  rw [decode_N] at hb ⊢
  rw [blankR_iff] at hb
  rw [blank_iff, ← getD_at h]
  rcases decodeN_cases (s.data.toList.length - pos) (s.data.toList.getD pos 0).toNat (s.data.toList.getD (pos + 1) 0).toNat (s.data.toList.getD (pos + 2) 0).toNat (s.data.toList.getD (pos + 3) 0).toNat with
    ⟨_, e⟩ | ⟨_, _, _, g, e⟩ | ⟨_, _, _, _, g, e⟩ | ⟨g, e⟩ | e
  · rw [e] at hb ⊢; exact ⟨rfl, hb⟩
  · rw [e] at hb; simp only at hb; omega
  · rw [e] at hb; simp only at hb; omega
  · omega
  · rw [e] at hb; simp only at hb; omega

/-- Another rune has no blank byte. -/
theorem rune_other {s : ByteArray} {pos : Nat} (h : pos < s.data.toList.length) (hb : blankR (Utf8.decode s pos).1 = false) : pos + (Utf8.decode s pos).2 ≤ s.data.toList.length ∧ ∀ j (hj : pos + j < s.data.toList.length), j < (Utf8.decode s pos).2 → isBlank s.data.toList[pos + j] = false := by
  rw [decode_N] at hb ⊢
  have hc := decodeN_conts (s.data.toList.length - pos) (s.data.toList.getD pos 0).toNat (s.data.toList.getD (pos + 1) 0).toNat (s.data.toList.getD (pos + 2) 0).toNat (s.data.toList.getD (pos + 3) 0).toNat
  have h0 : isBlank s.data.toList[pos] = true → (s.data.toList.getD pos 0).toNat < 128 ∧ blankR (s.data.toList.getD pos 0).toNat = true := by
    rw [blank_iff, blankR_iff, getD_at h]; intro hh; exact ⟨by omega, hh⟩
  have hle : decodeN (s.data.toList.length - pos) (s.data.toList.getD pos 0).toNat (s.data.toList.getD (pos + 1) 0).toNat (s.data.toList.getD (pos + 2) 0).toNat (s.data.toList.getD (pos + 3) 0).toNat = ((s.data.toList.getD pos 0).toNat, 1) ∨ ¬ (s.data.toList.getD pos 0).toNat < 128 := by
    by_cases hh : (s.data.toList.getD pos 0).toNat < 128
    · left; unfold decodeN; rw [if_pos hh]
    · exact .inr hh
  generalize hd : decodeN (s.data.toList.length - pos) (s.data.toList.getD pos 0).toNat (s.data.toList.getD (pos + 1) 0).toNat (s.data.toList.getD (pos + 2) 0).toNat (s.data.toList.getD (pos + 3) 0).toNat = q at *
  obtain ⟨R, K⟩ := q
  simp only at hb hc ⊢
  have cont : ∀ j (hj : pos + j < s.data.toList.length), (s.data.toList.getD (pos + j) 0).toNat / 64 = 2 → isBlank s.data.toList[pos + j] = false := fun j hj hq => by
    rw [← Bool.not_eq_true, blank_iff, ← getD_at hj]; omega
  refine ⟨by omega, fun j hj hK => ?_⟩
  match j, hj, hK with
  | 0, hj, hK =>
    rw [← Bool.not_eq_true]
    intro hh
    obtain ⟨g1, g2⟩ := h0 hh
    rcases hle with e | e
    · cases e; rw [g2] at hb; cases hb
    · exact e g1
  | 1, hj, hK => exact cont 1 hj (hc.1 (by omega)).1
  | 2, hj, hK => exact cont 2 hj (hc.2.1 (by omega)).1
  | 3, hj, hK => exact cont 3 hj (hc.2.2.1 (by omega)).1
  | j + 4, hj, hK => omega

theorem wordsGo_skip : ∀ (k : Nat) (cur l : List UInt8), k ≤ l.length → (∀ j (hj : j < l.length), j < k → isBlank l[j] = false) → wordsGo cur l = wordsGo (cur ++ l.take k) (l.drop k)
  | 0, cur, l, _, _ => by simp
  | k + 1, cur, [], h, _ => by simp at h
  | k + 1, cur, b :: t, h, hz => by
    have h0 : isBlank b = false := hz 0 (by simp) (by omega)
    rw [wordsGo_other h0, wordsGo_skip k (cur ++ [b]) t (by simp at h; omega) (fun j hj hk => by have := hz (j + 1) (by simp; omega) (by omega); simpa using this)]
    simp

theorem spans_words (s : ByteArray) : ∀ (f pos : Nat) (st : Option Nat) (acc : List (Nat × Nat)), s.data.toList.length ≤ pos + f → pos ≤ s.data.toList.length → (∀ a, st = some a → a < pos) →
    acc.map (fun x => pieceU s.data.toList x.1 x.2) ++ wordsGo (openPiece s.data.toList st pos) (s.data.toList.drop pos) = (closeSpans s (spansFromP blankR s f pos st acc)).map (fun x => pieceU s.data.toList x.1 x.2) := by
  intro f
  have hsz : s.size = s.data.toList.length := rfl
  induction f with
  | zero =>
    intro pos st acc hf hp hst
    obtain rfl : pos = s.data.toList.length := by omega
    rw [List.drop_length, wordsGo_end]
    cases st with
    | none => simp [spansFromP, closeSpans, openPiece]
    | some a => rw [if_neg (by unfold openPiece; exact pieceU_ne _ _ _ (hst a rfl) (Nat.le_refl _))]; simp [spansFromP, closeSpans, openPiece]
  | succ f ih =>
    intro pos st acc hf hp hst
    by_cases hlt : pos < s.data.toList.length
    · unfold spansFromP
      rw [if_pos (by rw [hsz]; exact hlt)]
      have hw := width_pos s pos
      cases hb : blankR (Utf8.decode s pos).1
      · obtain ⟨hle, hno⟩ := rune_other hlt hb
        have hsk := fun cur => wordsGo_skip (Utf8.decode s pos).2 cur (s.data.toList.drop pos) (by rw [List.length_drop]; omega) (fun j hj hk => by rw [List.getElem_drop]; exact hno j (by rw [List.length_drop] at hj; omega) hk)
        rw [hsk, List.drop_drop]
        cases st with
        | none =>
          simp only [Bool.false_eq_true, if_false]
          rw [← ih _ _ _ (by omega) hle (fun a h => by cases h; omega)]
          congr 2
          show [] ++ _ = pieceU _ _ _
          unfold pieceU
          rw [List.nil_append, show pos + (Utf8.decode s pos).2 - pos = (Utf8.decode s pos).2 by omega]
        | some a =>
          simp only [Bool.false_eq_true, if_false]
          rw [← ih _ _ _ (by omega) hle (fun b h => by cases h; have := hst a rfl; omega)]
          congr 2
          show pieceU _ a pos ++ _ = pieceU _ a _
          exact pieceU_grow _ _ _ _ (by have := hst a rfl; omega)
      · obtain ⟨h1, hbl⟩ := rune_blank hlt hb
        rw [h1, List.drop_eq_getElem_cons hlt, wordsGo_blank hbl]
        cases st with
        | none =>
          simp only [if_true]
          rw [← ih _ _ _ (by omega) (by omega) (fun a h => by cases h)]
          simp [openPiece]
        | some a =>
          simp only [if_true]
          rw [← ih _ _ _ (by omega) (by omega) (fun a h => by cases h)]
          rw [if_neg (by unfold openPiece; exact pieceU_ne _ _ _ (hst a rfl) hp)]
          simp [openPiece]
    · obtain rfl : pos = s.data.toList.length := by omega
      rw [spansFromP_end _ _ _ _ _ _ (by rw [hsz]; exact hlt), List.drop_length, wordsGo_end]
      cases st with
      | none => simp [closeSpans, openPiece]
      | some a => rw [if_neg (by unfold openPiece; exact pieceU_ne _ _ _ (hst a rfl) (Nat.le_refl _))]; simp [closeSpans, openPiece]

theorem fields_words (s : ByteArray) : (goFieldsP blankR s).map (fun x => x.data.toList) = wordsL s.data.toList := by
  have h := spans_words s s.size 0 none [] (by show s.data.toList.length ≤ 0 + s.data.toList.length; omega) (Nat.zero_le _) (fun a h => by cases h)
  unfold goFieldsP spansOfP wordsL
  rw [List.map_map]
  simp only [List.map_nil, List.nil_append, List.drop_zero] at h
  rw [show openPiece s.data.toList none 0 = [] from rfl] at h
  rw [h]
  refine List.map_congr_left fun x _ => ?_
  simp only [Function.comp]
  rw [ByteArray.data_extract, Array.toList_extract, List.extract_eq_take_drop]
  rfl
end Go.Proofs.YtcodbomgodkcmaaGreatDoor.Lin
