/- dirfs: the names of a path. -/
import Derived.Test.YtdkigiemhkoijaaGreatDoorBegun6
import Derived.Test.YtdkigiemhkoijaaGreatDoorLay6
namespace Go.Proofs.YtdkigiemhkoijaaGreatDoor.Dir
open Go.RowKit Go.Maps Go.Proofs.YtdkigiemhkoijaaGreatDoor Go.Proofs.YtdkigiemhkoijaaGreatDoor.Ino
set_option maxRecDepth 100000

def scells (L : List (List UInt8)) : List Value := L.map fun x => Value.string ⟨x.toArray⟩

/-- What Split answers of a path. -/
structure SplA (L : List (List UInt8)) (w : World) (x : Ending) (w' : World) : Prop where
  ex : ∃ v, x = .returned (.tuple #[v, .nilIface]) ∧ Seen w' 1 v L.length (scells L) ∧ Keep (fun _ => False) w w'

structure SpR (L : List (List UInt8)) (iv : Value) : Prop where
  ex : ∃ k : Nat, k ≤ L.length ∧ iv = .int .i64 (k : Int) ∧ ∀ j (_ : j < k) (hj : j < L.length), mayB L[j] = true

theorem splitB_names (r : ByteArray) : (Lib.splitB ⟨#[47]⟩ 0 (min 9 (r.size + 1) - 1) r).map (·.data.toList) = Lib.splitN r.data.toList [47] 9 := by
  rw [Lib.splitB_data, Lib.splitN]
  rfl

theorem cells_names {L9 : List ByteArray} {N j : Nat} (hj : j < L9.length) : (Lib.cellsOf L9 N)[j]? = some (.string L9[j]) := by
  unfold Lib.cellsOf
  rw [List.getElem?_toArray, List.getElem?_append_left (by simpa using hj), List.getElem?_map, List.getElem?_eq_getElem hj]
  rfl

theorem names_eq {L9 : List ByteArray} {L : List (List UInt8)} (h : L9.map (·.data.toList) = L) {j : Nat} (hj : j < L9.length) (hL : j < L.length) : L9[j].data.toList = L[j] := by
  subst h; simp

theorem str_eta (s : ByteArray) : (⟨s.data.toList.toArray⟩ : ByteArray) = s := by cases s; rfl

theorem cutp_no {w : World} (s : ByteArray) (h : ∀ r, s.data.toList ≠ 47 :: r) : Calls Tryz.prog 15 #[.string s, .string ⟨#[47]⟩] w fun e w' => e = .returned (.tuple #[.string s, .bool false]) ∧ w = w' := by
  have hp : Lib.hasPrefix s.data.toList [47] = false := by
    unfold Lib.hasPrefix
    cases hl : s.data.toList with
    | nil => rfl
    | cons c r =>
      have : c ≠ 47 := fun e => h r (by rw [hl, e])
      simp [List.isPrefixOf, Ne.symm this]
  refine (Tryz.strings_CutPrefix s ⟨#[47]⟩ w).mono ?_
  rintro e w' ⟨rfl, rfl⟩
  have e1 : (⟨#[47]⟩ : ByteArray).data.toList = [47] := rfl
  rw [e1, hp, Lib.trimPrefix, hp, if_neg (by simp), str_eta]
  exact ⟨rfl, rfl⟩

theorem cutp_yes {w : World} (s r : ByteArray) (h : s.data.toList = 47 :: r.data.toList) : Calls Tryz.prog 15 #[.string s, .string ⟨#[47]⟩] w fun e w' => e = .returned (.tuple #[.string r, .bool true]) ∧ w = w' := by
  have hp : Lib.hasPrefix s.data.toList [47] = true := by
    rw [h]; unfold Lib.hasPrefix; simp [List.isPrefixOf]
  refine (Tryz.strings_CutPrefix s ⟨#[47]⟩ w).mono ?_
  rintro e w' ⟨rfl, rfl⟩
  have e1 : (⟨#[47]⟩ : ByteArray).data.toList = [47] := rfl
  rw [e1, hp, Lib.trimPrefix, hp, if_pos rfl, h, show (47 :: r.data.toList).drop [(47 : UInt8)].length = r.data.toList from rfl, str_eta]
  exact ⟨rfl, rfl⟩

/-- No path: it begins with no stroke. -/
theorem split_no {w : World} (s : ByteArray) (h : ∀ r, s.data.toList ≠ 47 :: r) : Calls Tryz.prog 6 #[.string s] w fun e w' => e = .returned (.tuple #[.slice none 0 0, apiErr 5]) ∧ w = w' := by
  have HC := Lib.hid (fun w : World => cutp_no s h (w := w))
  clear h
  go_enter Tryz.func6, Tryz.ntmps6
  go_wp2_with (go_at_call 15; (with_reducible refine (HC.out _).mono ?_); rintro e w' ⟨rfl, rfl⟩)
  go_ret2
  exact ⟨rfl, rfl⟩

/-- The root. -/
theorem split_root {w : World} (s : ByteArray) (h : s.data.toList = [47]) : Calls Tryz.prog 6 #[.string s] w fun e w' => e = .returned (.tuple #[.slice none 0 0, .nilIface]) ∧ w = w' := by
  have HC := Lib.hid (fun w : World => cutp_yes s ⟨#[]⟩ h (w := w))
  clear h
  go_enter Tryz.func6, Tryz.ntmps6
  go_wp2_with (go_at_call 15; (with_reducible refine (HC.out _).mono ?_); rintro e w' ⟨rfl, rfl⟩)
  go_ret2
  exact ⟨rfl, rfl⟩

/-- What SplitN makes. -/
structure SnA (r : ByteArray) (w : World) (x : Ending) (w' : World) : Prop where
  ex : ∃ (L9 : List ByteArray) (cap : Nat), x = .returned (.slice (some ⟨w.heap.size, 0, none⟩) L9.length cap) ∧ L9.length ≤ cap ∧ cap ≤ 9 ∧ L9.map (·.data.toList) = Lib.splitN r.data.toList [47] 9 ∧ (∀ j (hj : j < L9.length), w'.cell? ⟨w.heap.size, j, none⟩ = some (.string L9[j])) ∧ w.heap.size < w'.heap.size ∧ Keep (fun _ => False) w w'

theorem splitN_any {w : World} (r : ByteArray) (hr : r.size ≤ 300) {m : Int} (hm : w.cell? ⟨0, 0, none⟩ = some (.int .i64 m)) : Calls Tryz.prog 16 #[.string r, .string ⟨#[47]⟩, .int .i64 9] w (SnA r w) := by
  refine (Tryz.strings_SplitN r ⟨#[47]⟩ 9 m w (by omega) hm (by decide) (by omega) (by omega)).mono ?_
  rintro x w' ⟨rfl, rfl⟩
  have hlen := Lib.splitB_length_le ⟨#[47]⟩ 0 (min 9 (r.size + 1) - 1) r
  refine ⟨_, _, rfl, by omega, by omega, splitB_names r, fun j hj => ?_, by simp, (Keep.refl _ _).alloc _⟩
  rw [cell_of_row _ _ _ _ _ _ (heap_alloc_new w _)]
  exact cells_names hj

/-- Too many names. -/
theorem split_many {w : World} (s r : ByteArray) (hr : r.size ≤ 300) (h0 : r.data.toList ≠ []) (hs : s.data.toList = 47 :: r.data.toList) {m : Int} (hm : w.cell? ⟨0, 0, none⟩ = some (.int .i64 m)) (h8 : 8 < (Lib.splitN r.data.toList [47] 9).length) :
    Calls Tryz.prog 6 #[.string s] w fun e w' => e = .returned (.tuple #[.slice none 0 0, apiErr 5]) ∧ Keep (fun _ => False) w w' := by
  have HC := Lib.hid (fun w : World => cutp_yes s r hs (w := w))
  have HS := Lib.hid (splitN_any r hr hm)
  have e0 : r.toList.isEmpty = false := by rw [ByteArray.toList_eq]; simpa using h0
  have H8 := Lib.hid h8
  clear hs h0 hm h8
  go_enter Tryz.func6, Tryz.ntmps6
  go_wp2_with (first | (go_at_call 15; (with_reducible refine (HC.out _).mono ?_); rintro e w' ⟨rfl, rfl⟩) | (go_at_call 16; (with_reducible refine HS.out.mono ?_); rintro e w1 ⟨L9, cap, rfl, hc1, hc2, hL, hcell, hlt, k1⟩; have K1 := Lib.hid k1; have hd : decide (8 < (L9.length : Int)) = true := (by have := H8.out; rw [← hL, List.length_map] at this; rw [decide_eq_true_eq]; omega); clear hL hcell k1))
  go_ret2
  exact ⟨rfl, K1.out⟩

/-- What Split answers where the names are not too many. -/
structure SplB (L : List (List UInt8)) (w : World) (x : Ending) (w' : World) : Prop where
  or : (L.all mayB = true ∧ SplA L w x w') ∨ (L.all mayB = false ∧ x = .returned (.tuple #[.slice none 0 0, apiErr 5]) ∧ Keep (fun _ => False) w w')

set_option maxHeartbeats 2000000 in
theorem split_few {w : World} (s r : ByteArray) (hr : r.size ≤ 300) (h0 : r.data.toList ≠ []) (hs : s.data.toList = 47 :: r.data.toList) {m : Int} (hm : w.cell? ⟨0, 0, none⟩ = some (.int .i64 m)) (h8 : (pieces r.data.toList).length ≤ 8) (hL : Lib.splitN r.data.toList [47] 9 = pieces r.data.toList) :
    Calls Tryz.prog 6 #[.string s] w (SplB (pieces r.data.toList) w) := by
  have HC := Lib.hid (fun w : World => cutp_yes s r hs (w := w))
  have HS := Lib.hid (splitN_any r hr hm)
  have e0 : r.toList.isEmpty = false := by rw [ByteArray.toList_eq]; simpa using h0
  have HL := Lib.hid hL
  obtain ⟨L, hLL⟩ : ∃ L, L = pieces r.data.toList := ⟨_, rfl⟩
  rw [← hLL] at h8 HL ⊢
  clear hs h0 hm hL hLL
  go_enter Tryz.func6, Tryz.ntmps6
  go_wp2_with (first | (go_at_call 15; (with_reducible refine (HC.out _).mono ?_); rintro e w' ⟨rfl, rfl⟩) | (go_at_call 16; (with_reducible refine HS.out.mono ?_); rintro e w1 ⟨L9, cap, rfl, hc1, hc2, hL, hcell, hlt, k1⟩; have K1 := Lib.hid k1; have HM := Lib.hid (hL.trans HL.out); have hl8 : L9.length ≤ 8 := (by have := congrArg List.length (hL.trans HL.out); rw [List.length_map] at this; omega); have hd : decide (8 < (L9.length : Int)) = false := (by rw [decide_eq_false_iff_not]; omega); have HCL := Lib.hid hcell; have HLT := Lib.hid hlt; clear hL hcell k1 hlt))
  go_loop [8, 27] (fun _ iv => SpR L iv) (fun _ iv => L.length - (intOf iv).toNat)
  case atStart => exact ⟨0, by omega, rfl, fun j hj => by omega⟩
  case round =>
    obtain ⟨k, hk, rfl, hall⟩ := hrel.ex
    have HA := Lib.hid hall
    clear hall hrel
    have hlen : L9.length = L.length := by rw [← HM.out, List.length_map]
    by_cases hlt : k < L9.length
    · have hkL : k < L.length := by omega
      have hd2 : decide (k < L9.length) = true := by rw [decide_eq_true_eq]; omega
      have c0 := HCL.out k hlt
      have hnm := names_eq HM.out hlt hkL
      obtain ⟨nm, hn9⟩ : ∃ nm, nm = L9[k] := ⟨_, rfl⟩
      rw [← hn9] at c0 hnm
      have HMY := Lib.hid (fun w : World => may_any nm (w := w))
      rw [hnm] at HMY
      have hlg := HLT.out
      clear hnm hn9 hlen
      by_cases hmb : mayB L[k] = true
      · rw [hmb] at HMY
        have HMB := Lib.hid hmb
        clear hmb
        go_wp2_with (go_at_call 9; (with_reducible refine (HMY.out _).mono ?_); rintro e w' ⟨rfl, rfl⟩)
        go_round
        case rel => exact ⟨k + 1, by omega, by go_num, fun j hj hjL => by
          by_cases e : j = k
          · subst e; exact HMB.out
          · exact HA.out j (by omega) hjL⟩
        case measure => simp [intOf]; omega
      · have hmf : mayB L[k] = false := by simpa using hmb
        rw [hmf] at HMY
        have HNO : Hid (L.all mayB = false) := Lib.hid (by rw [← Bool.not_eq_true, List.all_eq_true]; exact fun h => hmb (h _ (List.getElem_mem hkL)))
        clear hmb hmf
        go_wp2_with (go_at_call 9; (with_reducible refine (HMY.out _).mono ?_); rintro e w' ⟨rfl, rfl⟩)
        go_ret2
        exact ⟨.inr ⟨HNO.out, rfl, K1.out⟩⟩
    · have hd2 : decide (k < L9.length) = false := by rw [decide_eq_false_iff_not]; omega
      have HYES : Hid (L.all mayB = true) := Lib.hid (by rw [List.all_eq_true]; intro x hx; obtain ⟨j, hj, rfl⟩ := List.mem_iff_getElem.1 hx; exact HA.out j (by omega) hj)
      have HEN : Hid (L9.length = L.length) := Lib.hid hlen
      clear hlen
      go_wp2
      go_ret2
      refine ⟨.inl ⟨HYES.out, _, rfl, ?_, K1.out⟩⟩
      have hen := HEN.out
      refine ⟨by simp [scells], _, cap, by rw [← hen]; rfl, by omega, by unfold maxLen; omega, .inr ⟨_, 0, rfl, HLT.out, fun j u hu => ?_⟩⟩
      have hj : j < L.length := by have := (List.getElem?_eq_some_iff.1 hu).1; simpa [scells] using this
      have hc := HCL.out j (by omega)
      have hnm := names_eq HM.out (j := j) (by omega) hj
      rw [Nat.zero_add, hc, ← hu]
      simp only [scells, List.getElem?_map, List.getElem?_eq_getElem hj, Option.map_some]
      rw [← hnm, str_eta]

end Go.Proofs.YtdkigiemhkoijaaGreatDoor.Dir
