/- Texts: the reference's Lower. -/
import Derived.Test.YtcodbomgodkcmaaGreatDoorLinP
import Derived.Test.YtcodbomgodkcmaaGreatDoorArgs
namespace Go.Proofs.YtcodbomgodkcmaaGreatDoor.Lin
open Go.RowKit Go.Maps Go.Proofs.YtcodbomgodkcmaaGreatDoor
set_option maxRecDepth 100000

def mixL (l : List UInt8) (k : Nat) : List UInt8 := (l.take k).map lowC ++ l.drop k
theorem mixL_zero (l : List UInt8) : mixL l 0 = l := by simp [mixL]
theorem mixL_len (l : List UInt8) (k : Nat) : (mixL l k).length = l.length := by simp [mixL]; omega
theorem mixL_full (l : List UInt8) : mixL l l.length = lowerL l := by simp [mixL, lowerL]
theorem mixL_get {l : List UInt8} {k : Nat} (h : k < l.length) : (mixL l k)[k]? = some l[k] := by
  unfold mixL
  rw [List.getElem?_append_right (by simp; omega), List.length_map, List.length_take, Nat.min_eq_left (by omega), Nat.sub_self, List.getElem?_drop, Nat.add_zero, List.getElem?_eq_getElem h]
theorem mixL_next {l : List UInt8} {k : Nat} (h : k < l.length) : mixL l (k + 1) = (mixL l k).set k (lowC l[k]) := by
  unfold mixL
  rw [List.set_append_right k (lowC l[k]) (by simp; omega), List.length_map, List.length_take, Nat.min_eq_left (by omega), Nat.sub_self, List.drop_eq_getElem_cons h, List.set_cons_zero, List.take_succ_eq_append_getElem h, List.map_append, List.append_assoc]
  rfl
theorem bcells_set (l : List UInt8) (k : Nat) (c : UInt8) : bcells (l.set k c) = (bcells l).set k (.int .u8 (c.toNat : Int)) := by simp [bcells, List.map_set]
theorem bcells_get {l : List UInt8} {k : Nat} {c : UInt8} (h : l[k]? = some c) : (bcells l)[k]? = some (.int .u8 (c.toNat : Int)) := by simp [bcells, h]

theorem set_same {α : Type} {l : List α} {k : Nat} {c : α} (h : l[k]? = some c) : l.set k c = l := by
  apply List.ext_getElem?
  intro j
  rw [List.getElem?_set]
  by_cases e : k = j
  · subst e; rw [if_pos rfl, h]; obtain ⟨h1, _⟩ := List.getElem?_eq_some_iff.1 h; rw [if_pos h1]
  · rw [if_neg e]
theorem lowC_up {c : UInt8} (h1 : 65 ≤ c.toNat) (h2 : c.toNat ≤ 90) : ((lowC c).toNat : Int) = (c.toNat : Int) + 32 := by
  unfold lowC
  rw [if_pos ⟨h1, h2⟩, UInt8.toNat_add, show (32 : UInt8).toNat = 32 from rfl]
  omega
theorem lowC_no {c : UInt8} (h : ¬ (65 ≤ c.toNat ∧ c.toNat ≤ 90)) : lowC c = c := by unfold lowC; rw [if_neg h]

theorem run_bytes_row1 {P : Program} (w : World) (src dst e : TypeId) (s : ByteArray) (hs : P.underlying src = some .string) (hd : P.underlying dst = some (.slice e)) (he : P.underlying e = some (.int .u8)) (hm : s.size ≤ maxLen) :
    ∃ cap w', (convert src dst (.string s)).run P w = .ok (.slice (some ⟨w.heap.size, 0, none⟩) s.size cap) w' ∧ Row w' e 1 (.slice (some ⟨w.heap.size, 0, none⟩) s.size cap) s.size (bcells s.data.toList) ∧ Keep (fun _ => False) w w' ∧
      w'.heap.size = w.heap.size + 1 := by
  refine ⟨_, _, run_bytes_of_string w src dst e s hs hd he, ⟨by rw [bcells_length, str_len, Nat.mul_one], .inr ⟨w.heap.size, 0, _, _, _, _, rfl, heap_alloc_new w.drew _, grownCap_ge w s.size 0 e, grownCap_le_maxLen w s.size 0 e hm, ?_, .inr (.inl ?_), ?_⟩⟩, ((Keep.refl _ w).drew).alloc _, by simp⟩
  · have := grownCap_ge w s.size 0 e
    simp only [bytesRow, Array.size_append, Array.size_map, Array.size_replicate, Nat.zero_add, Nat.mul_one]
    have h2 : s.data.size = s.size := rfl
    omega
  · have := grownCap_ge w s.size 0 e
    simp only [bytesRow, Array.size_append, Array.size_map, Array.size_replicate, Nat.zero_add, Nat.mul_one]
    have h2 : s.data.size = s.size := rfl
    omega
  · have h2 : (bcells s.data.toList).length = s.size := by rw [bcells_length]; rfl
    simp only [bytesRow, Array.toList_append, Array.toList_map, List.drop_zero, Nat.mul_one]
    exact List.take_left' h2

theorem row_str {P : Program} {w : World} {src dst e : TypeId} {g cap n : Nat} {l : List UInt8} (h : Row w e 1 (.slice (some ⟨g, 0, none⟩) n cap) n (bcells l))
    (hs : P.underlying src = some (.slice e)) (he : P.underlying e = some (.int .u8)) (hd : P.underlying dst = some .string) : (convert src dst (.slice (some ⟨g, 0, none⟩) n cap)).run P w = .ok (.string ⟨l.toArray⟩) w :=
  run_string_of_bytes (l := l) (fun j hj => by
    have hl : l.length = n := by have := h.1; rw [bcells_length] at this; omega
    rw [h.cellAt j (by omega), bcells_get (List.getElem?_eq_getElem hj)]) _ _ _ _ _ (by have := h.1; rw [bcells_length] at this; omega) hs he hd

structure LowR (s : ByteArray) (w0 : World) (g cap : Nat) (iv : Value) (wr : World) : Prop where
  ex : ∃ k : Nat, iv = .int .i64 (k : Int) ∧ k ≤ s.size ∧ Row wr 5 1 (.slice (some ⟨g, 0, none⟩) s.size cap) s.size (bcells (mixL s.data.toList k)) ∧ Keep (fun x => w0.heap.size ≤ x) w0 wr

end Go.Proofs.YtcodbomgodkcmaaGreatDoor.Lin
