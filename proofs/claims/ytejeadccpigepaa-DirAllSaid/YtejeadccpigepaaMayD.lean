/- dirfs: which names may be. -/
import Derived.Test.YtejeadccpigepaaPath
import Derived.Test.YtejeadccpigepaaRow
namespace Go.Proofs.Ytejeadccpigepaa.Dir
open Go.RowKit Go.Maps Go.Proofs.Ytejeadccpigepaa
set_option maxRecDepth 100000

def letZ (z : Int) : Bool := (decide (97 ≤ z) && decide (z ≤ 122)) || (decide (48 ≤ z) && decide (z ≤ 57)) || z == 46 || z == 45 || z == 95

theorem letZ_eq (c : UInt8) : letZ (c.toNat : Int) = letB c := by
  have h : ∀ k : UInt8, (decide ((k.toNat : Int) ≤ (c.toNat : Int)) = decide (k ≤ c)) ∧ (decide ((c.toNat : Int) ≤ (k.toNat : Int)) = decide (c ≤ k)) ∧ (((c.toNat : Int) == (k.toNat : Int)) = (c == k)) := by
    intro k
    refine ⟨?_, ?_, ?_⟩
    · rw [Bool.eq_iff_iff]; simp [UInt8.le_iff_toNat_le]
    · rw [Bool.eq_iff_iff]; simp [UInt8.le_iff_toNat_le]
    · rw [Bool.eq_iff_iff]
      simp only [beq_iff_eq]
      exact ⟨fun e => UInt8.toNat_inj.1 (by omega), fun e => by rw [e]⟩
  have h97 := h 97; have h122 := h 122; have h48 := h 48; have h57 := h 57; have h46 := h 46; have h45 := h 45; have h95 := h 95
  simp only [show ((97 : UInt8).toNat : Int) = 97 from rfl, show ((122 : UInt8).toNat : Int) = 122 from rfl, show ((48 : UInt8).toNat : Int) = 48 from rfl, show ((57 : UInt8).toNat : Int) = 57 from rfl, show ((46 : UInt8).toNat : Int) = 46 from rfl, show ((45 : UInt8).toNat : Int) = 45 from rfl, show ((95 : UInt8).toNat : Int) = 95 from rfl] at h97 h122 h48 h57 h46 h45 h95
  unfold letZ letB
  rw [h97.1, h122.2.1, h48.1, h57.2.1, h46.2.2, h45.2.2, h95.2.2]

theorem ret_iff {x y : Bool} (h : x = true ↔ y = true) : Ending.returned (.bool x) = Ending.returned (.bool y) := by rw [Bool.eq_iff_iff.2 h]

theorem letZ_t {z : Int} (h : (97 ≤ z ∧ z ≤ 122) ∨ (48 ≤ z ∧ z ≤ 57) ∨ z = 46 ∨ z = 45 ∨ z = 95) : letZ z = true := by
  simp [letZ]; omega
theorem letZ_f {z : Int} (h : ¬ ((97 ≤ z ∧ z ≤ 122) ∨ (48 ≤ z ∧ z ≤ 57) ∨ z = 46 ∨ z = 45 ∨ z = 95)) : letZ z = false := by
  rw [← Bool.not_eq_true]
  intro e
  apply h
  simp [letZ] at e
  omega

theorem letter_any (c : UInt8) {w : World} : Calls Try.prog 27 #[.int .u8 (c.toNat : Int)] w fun e w' => e = .returned (.bool (letB c)) ∧ w = w' := by
  rw [← letZ_eq]
  have h0 : (0 : Int) ≤ (c.toNat : Int) := by omega
  generalize (c.toNat : Int) = z at *
  go_enter Try.func27, Try.ntmps27
  go_wp2
  all_goals
    go_ret
    exact ⟨ret_iff (by first | (simp [letZ]; done) | (simp [letZ]; omega)), rfl⟩

theorem mayBe_any (k : Int) {w : World} : Calls Try.prog 16 #[.int .i64 k] w fun e w' => e = .returned (.bool (decide (0 < k ∧ k < 32))) ∧ w = w' := by
  go_enter Try.func16, Try.ntmps16
  go_wp2
  all_goals
    go_ret
    exact ⟨ret_iff (by first | (simp; done) | (simp; omega)), rfl⟩

structure MayI (s : ByteArray) (iv : Value) : Prop where
  ex : ∃ i : Nat, i ≤ s.size ∧ iv = .int .i64 (i : Int) ∧ ∀ j (_ : j < i) (hs : j < s.size), letB s[j] = true

theorem all_of {s : ByteArray} (h : ∀ j (hs : j < s.size), letB s[j] = true) : s.data.toList.all letB = true := by
  rw [List.all_eq_true]
  intro c hc
  obtain ⟨j, hj, rfl⟩ := List.mem_iff_getElem.1 hc
  exact h j (by simpa using hj)

theorem all_not {s : ByteArray} {j : Nat} (hj : j < s.size) (h : letB s[j] = false) : s.data.toList.all letB = false := by
  rw [← Bool.not_eq_true, List.all_eq_true]
  intro hc
  have := hc s[j] (by
    have e : s[j] = s.data.toList[j]'(by simpa using hj) := rfl
    rw [e]; exact List.getElem_mem _)
  rw [h] at this; cases this

theorem mayB_head (s : ByteArray) : mayB s.data.toList = (!(s.data.toList == []) && decide (s.size ≤ 24) && !(s.data.toList == [46]) && !(s.data.toList == [46, 46]) && s.data.toList.all letB) := by
  rw [mayB]; rfl

theorem mayB_no (s : ByteArray) (h : s.toList = [] ∨ 24 < s.size ∨ s.toList = [46] ∨ s.toList = [46, 46]) : mayB s.data.toList = false := by
  rw [mayB_head, ← ByteArray.toList_eq]
  rcases h with h | h | h | h
  · simp [h]
  · simp [show ¬ s.size ≤ 24 by omega]
  · simp [h]
  · simp [h]

theorem mayB_yes (s : ByteArray) (h0 : s.toList ≠ []) (h1 : s.size ≤ 24) (h2 : s.toList ≠ [46]) (h3 : s.toList ≠ [46, 46]) : mayB s.data.toList = s.data.toList.all letB := by
  rw [mayB_head, ← ByteArray.toList_eq]
  simp [h0, h1, h2, h3]

set_option maxHeartbeats 1000000 in
theorem may_any (s : ByteArray) {w : World} : Calls Try.prog 15 #[.string s] w fun e w' => e = .returned (.bool (mayB s.data.toList)) ∧ w = w' := by
  by_cases h0 : s.toList = []
  · rw [mayB_no s (.inl h0)]
    have e0 : s.toList.isEmpty = true := by rw [h0]; rfl
    go_enter Try.func15, Try.ntmps15
    go_wp2
    go_ret
    exact ⟨rfl, rfl⟩
  have e0 : s.toList.isEmpty = false := by simp [h0]
  by_cases h1 : 24 < s.size
  · rw [mayB_no s (.inr (.inl h1))]
    have d1 : decide (24 < (s.size : Int)) = true := by rw [decide_eq_true_eq]; omega
    go_enter Try.func15, Try.ntmps15
    go_wp2
    go_ret
    exact ⟨rfl, rfl⟩
  have d1 : decide (24 < (s.size : Int)) = false := by rw [decide_eq_false_iff_not]; omega
  by_cases h2 : s.toList = [46]
  · rw [mayB_no s (.inr (.inr (.inl h2)))]
    have e2 : (s.toList == [46]) = true := by rw [h2]; rfl
    go_enter Try.func15, Try.ntmps15
    go_wp2
    go_ret
    exact ⟨rfl, rfl⟩
  have e2 : (s.toList == [46]) = false := by simp [h2]
  by_cases h3 : s.toList = [46, 46]
  · rw [mayB_no s (.inr (.inr (.inr h3)))]
    have e3 : (s.toList == [46, 46]) = true := by rw [h3]; rfl
    clear h2 h3
    go_enter Try.func15, Try.ntmps15
    go_wp2
    go_ret
    exact ⟨rfl, rfl⟩
  have e3 : (s.toList == [46, 46]) = false := by simp [h3]
  have hs24 : s.size ≤ 24 := by omega
  obtain ⟨b, hb⟩ : ∃ b, b = mayB s.data.toList := ⟨_, rfl⟩
  rw [← hb]
  rw [mayB_yes s h0 hs24 h2 h3] at hb
  have HB := Lib.hid hb
  clear h0 h1 h2 h3 hb
  go_enter Try.func15, Try.ntmps15
  go_wp2
  go_loop [3, 21] (fun _ iv => MayI s iv) (fun _ iv => s.size - (intOf iv).toNat)
  case atStart => exact ⟨0, by omega, rfl, fun j hj => by omega⟩
  case round =>
    obtain ⟨k, hk, rfl, hall⟩ := hrel.ex
    have HA := Lib.hid hall
    clear hall hrel
    by_cases hlt : k < s.size
    · by_cases hl : letB s[k] = true
      · go_wp2_with (go_at_call 27; refine (letter_any s[k]).mono ?_; rintro e w' ⟨rfl, rfl⟩)
        go_round
        case rel => exact ⟨k + 1, by omega, by go_num, fun j hj hs => by
          by_cases e : j = k
          · subst e; exact hl
          · exact HA.out j (by omega) hs⟩
        case measure => simp [intOf]; omega
      · have hlf : letB s[k] = false := by simpa using hl
        have hno := all_not hlt hlf
        have HN := Lib.hid hno
        clear hl hno
        go_wp2_with (go_at_call 27; refine (letter_any s[k]).mono ?_; rintro e w' ⟨rfl, rfl⟩)
        go_ret
        exact ⟨by rw [HB.out, HN.out]; rfl, rfl⟩
    · have hd : decide (k < s.size) = false := by rw [decide_eq_false_iff_not]; omega
      have HN := Lib.hid (all_of fun j hs => HA.out j (by omega) hs)
      go_wp2
      go_ret
      exact ⟨by rw [HB.out, HN.out]; rfl, rfl⟩

set_option maxHeartbeats 1000000 in
theorem refMay_any (s : ByteArray) {w : World} : Calls Try.prog 7 #[.string s] w fun e w' => e = .returned (.bool (mayB s.data.toList)) ∧ w = w' := by
  by_cases h0 : s.toList = []
  · rw [mayB_no s (.inl h0)]
    have e0 : s.toList.isEmpty = true := by rw [h0]; rfl
    go_enter Try.func7, Try.ntmps7
    go_wp2
    go_ret
    exact ⟨rfl, rfl⟩
  have e0 : s.toList.isEmpty = false := by simp [h0]
  by_cases h1 : 24 < s.size
  · rw [mayB_no s (.inr (.inl h1))]
    have d1 : decide (24 < (s.size : Int)) = true := by rw [decide_eq_true_eq]; omega
    go_enter Try.func7, Try.ntmps7
    go_wp2
    go_ret
    exact ⟨rfl, rfl⟩
  have d1 : decide (24 < (s.size : Int)) = false := by rw [decide_eq_false_iff_not]; omega
  by_cases h2 : s.toList = [46]
  · rw [mayB_no s (.inr (.inr (.inl h2)))]
    have e2 : (s.toList == [46]) = true := by rw [h2]; rfl
    go_enter Try.func7, Try.ntmps7
    go_wp2
    go_ret
    exact ⟨rfl, rfl⟩
  have e2 : (s.toList == [46]) = false := by simp [h2]
  by_cases h3 : s.toList = [46, 46]
  · rw [mayB_no s (.inr (.inr (.inr h3)))]
    have e3 : (s.toList == [46, 46]) = true := by rw [h3]; rfl
    clear h2 h3
    go_enter Try.func7, Try.ntmps7
    go_wp2
    go_ret
    exact ⟨rfl, rfl⟩
  have e3 : (s.toList == [46, 46]) = false := by simp [h3]
  have hs24 : s.size ≤ 24 := by omega
  obtain ⟨b, hb⟩ : ∃ b, b = mayB s.data.toList := ⟨_, rfl⟩
  rw [← hb]
  rw [mayB_yes s h0 hs24 h2 h3] at hb
  have HB := Lib.hid hb
  clear h0 h1 h2 h3 hb
  go_enter Try.func7, Try.ntmps7
  go_wp2
  go_loop [3, 4] (fun iv _ => MayI s iv) (fun iv _ => s.size - (intOf iv).toNat)
  case atStart => exact ⟨0, by omega, rfl, fun j hj => by omega⟩
  case round =>
    obtain ⟨k, hk, rfl, hall⟩ := hrel.ex
    have HA := Lib.hid hall
    clear hall hrel
    by_cases hlt : k < s.size
    · have HZ := Lib.hid (letZ_eq s[k])
      have HN0 := Lib.hid (fun h : letB s[k] = false => all_not hlt h)
      have HR := Lib.hid (fun (h : letB s[k] = true) j (hj : j < k + 1) (hs : j < s.size) => show letB s[j] = true by
          by_cases e : j = k
          · subst e; exact h
          · exact HA.out j (by omega) hs)
      go_wp2
      all_goals
        clear hs24 d1 e0 e2 e3
        first
        | (have hz : letZ (s[k].toNat : Int) = false := letZ_f (by first | omega | (simp at *; omega)))
          (have hn := HN0.out (by rw [← HZ.out]; exact hz))
          go_ret
          exact ⟨by rw [HB.out, hn]; rfl, rfl⟩
        | (have hz : letZ (s[k].toNat : Int) = true := letZ_t (by first | omega | (simp at *; omega)))
          go_round
          case rel => exact ⟨k + 1, by omega, by go_num, HR.out (by rw [← HZ.out]; exact hz)⟩
          case measure => simp [intOf]; omega
    · have hd : decide (k < s.size) = false := by rw [decide_eq_false_iff_not]; omega
      have HN := Lib.hid (all_of fun j hs => HA.out j (by omega) hs)
      go_wp2
      go_ret
      exact ⟨by rw [HB.out, HN.out]; rfl, rfl⟩

end Go.Proofs.Ytejeadccpigepaa.Dir
