/- Texts: the program's Lower and Word. -/
import Derived.Test.YtincpkncakppbaaDoorLinLaw
namespace Go.Proofs.YtincpkncakppbaaDoor.Lin
open Go.RowKit Go.Maps Go.Proofs.YtincpkncakppbaaDoor
set_option maxRecDepth 100000

set_option maxHeartbeats 1000000 in
theorem lower_any (s : ByteArray) (hs : s.size ≤ 1000000) {w : World} : Calls Tryd.prog 14 #[.string s] w fun e w' => e = .returned (.string ⟨(lowerL s.data.toList).toArray⟩) ∧ Keep (fun _ => False) w w' := by
  obtain ⟨cap, w1, hr, hrow, hk, _⟩ := run_bytes_row1 (P := Tryd.prog) w 9 45 5 s Tryd.underlying9 Tryd.underlying45 Tryd.underlying5 (by unfold maxLen; omega)
  have HROW := Lib.hid hrow
  have HK := Lib.hid hk
  clear hrow hk
  obtain ⟨g, hg⟩ : ∃ g, g = w.heap.size := ⟨_, rfl⟩
  have HG := Lib.hid hg
  rw [← hg] at hr HROW
  clear hg
  go_enter Tryd.func14, Tryd.ntmps14
  go_wp2
  go_loopw [10] (fun iv wr => LowR s w g cap iv wr) (fun iv _ => s.size - (intOf iv).toNat)
  case atStart => exact ⟨0, rfl, by omega, by rw [mixL_zero]; exact HROW.out, HK.out.mono (fun i hi h => h.elim)⟩
  case round =>
    obtain ⟨k, rfl, hk, hrow2, hK2⟩ := hrel.ex
    have HR2 := Lib.hid hrow2
    have HK2 := Lib.hid hK2
    clear hrow2 hK2 hrel
    by_cases hlt : k < s.size
    · obtain ⟨c, hc⟩ : ∃ c, c = s.data.toList[k]'(by rw [str_len]; exact hlt) := ⟨_, rfl⟩
      have hcell : wr.cell? ⟨g, k, none⟩ = some (.int .u8 (c.toNat : Int)) := by
        have h := HR2.out.cellAt k (by omega)
        rw [Nat.zero_add, bcells_get (c := c) (by rw [hc]; exact mixL_get (by rw [str_len]; exact hlt))] at h
        exact h
      have hfz : wr.frozen? ⟨g, k, none⟩ = false := by
        obtain ⟨_, _, hv, h1, _⟩ := HR2.out.slice
        simp only [Value.slice.injEq] at hv
        obtain ⟨_, _, rfl⟩ := hv
        have := (HR2.out.there k (by omega)).2
        rwa [Nat.zero_add] at this
      have HC := Lib.hid hc
      clear hc
      by_cases hup : 65 ≤ c.toNat ∧ c.toNat ≤ 90
      · have g1 : decide (65 ≤ (c.toNat : Int)) = true := by rw [decide_eq_true_eq]; omega
        have g2 : decide ((c.toNat : Int) ≤ 90) = true := by rw [decide_eq_true_eq]; omega
        go_wp2
        go_roundw
        case rel =>
          refine ⟨k + 1, by go_num, by omega, ?_, HK2.out.setCell _ _ (.inr (by show w.heap.size ≤ g; have := HG.out; omega))⟩
          have h := HR2.out.stored k (.int .u8 ((lowC c).toNat : Int))
          rw [← bcells_set, HC.out, ← mixL_next (by rw [str_len]; exact hlt), ← HC.out, lowC_up hup.1 hup.2, show (c.toNat : Int) + 32 = c.toNat - 65 + 97 by omega, Nat.zero_add] at h
          exact h
        case measure => simp [intOf]; omega
      · have HLC : Hid (Row wr 5 1 (.slice (some ⟨g, 0, none⟩) s.size cap) s.size (bcells (mixL s.data.toList (k + 1)))) := Lib.hid (by
          rw [mixL_next (by rw [str_len]; exact hlt), ← HC.out, lowC_no hup, HC.out]
          rw [set_same (mixL_get (by rw [str_len]; exact hlt))]
          exact HR2.out)
        by_cases h1 : 65 ≤ c.toNat
        · have g1 : decide (65 ≤ (c.toNat : Int)) = true := by rw [decide_eq_true_eq]; omega
          have g2 : decide ((c.toNat : Int) ≤ 90) = false := by rw [decide_eq_false_iff_not]; omega
          go_wp2
          go_roundw
          case rel => exact ⟨k + 1, by go_num, by omega, HLC.out, HK2.out⟩
          case measure => simp [intOf]; omega
        · have g1 : decide (65 ≤ (c.toNat : Int)) = false := by rw [decide_eq_false_iff_not]; omega
          go_wp2
          go_roundw
          case rel => exact ⟨k + 1, by go_num, by omega, HLC.out, HK2.out⟩
          case measure => simp [intOf]; omega
    · have hd : decide (k < s.size) = false := by rw [decide_eq_false_iff_not]; omega
      have hcv := row_str (P := Tryd.prog) HR2.out Tryd.underlying45 Tryd.underlying5 Tryd.underlying9
      rw [show k = s.data.toList.length by rw [str_len]; omega, mixL_full] at hcv
      go_wp2
      go_ret
      exact ⟨rfl, HK2.out.mono (fun i hi h => by omega)⟩

set_option maxHeartbeats 1000000 in
theorem word_any (s : ByteArray) (hs : s.size ≤ 1000000) {w : World} : Calls Tryd.prog 16 #[.string s] w fun e w' => e = .returned (.bool (wordB s.data.toList)) ∧ w = w' := by
  obtain ⟨b, hb⟩ : ∃ b, b = wordB s.data.toList := ⟨_, rfl⟩
  rw [← hb]
  have HB := Lib.hid hb
  clear hb
  go_enter Tryd.func16, Tryd.ntmps16
  by_cases h0 : s.size = 0
  · obtain rfl : s = ⟨#[]⟩ := by
      apply ByteArray.ext; apply Array.ext' ; simpa using (List.eq_nil_of_length_eq_zero (by simpa using h0) : s.data.toList = [])
    go_wp2
    go_ret
    exact ⟨by rw [HB.out]; rfl, rfl⟩
  have hq : (s.toList == ([] : List UInt8)) = false := by
    rw [ByteArray.toList_eq, beq_eq_false_iff_ne]; intro e; apply h0; rw [← str_len, e]; rfl
  by_cases h24 : 24 < s.size
  · have hd : decide (24 < (s.size : Int)) = true := by rw [decide_eq_true_eq]; omega
    go_wp2
    go_ret
    exact ⟨by rw [HB.out]; unfold wordB; rw [decide_eq_false (p := s.data.toList.length ≤ 24) (by rw [str_len]; omega), Bool.and_false, Bool.false_and]; rfl, rfl⟩
  have hd24 : decide (24 < (s.size : Int)) = false := by rw [decide_eq_false_iff_not]; omega
  go_wp2
  go_loop [3, 13] (fun _ iv => AllR lowB s iv) (fun _ iv => s.size - (intOf iv).toNat)
  case atStart => exact ⟨0, by omega, rfl, fun j hj => by omega⟩
  case round =>
    obtain ⟨k, hk, rfl, hall⟩ := hrel.ex
    have HA := Lib.hid hall
    clear hall hrel
    by_cases hlt : k < s.size
    · have HN0 := Lib.hid (fun h : lowB s[k] = false => all_not (f := lowB) hlt h)
      have HR := Lib.hid (AllR.next HA.out hlt)
      have HZ : Hid (lowB s[k] = (decide (97 ≤ (s[k].toNat : Int)) && decide ((s[k].toNat : Int) ≤ 122))) := Lib.hid (by unfold lowB; congr 1 <;> (rw [Bool.eq_iff_iff]; simp; try omega))
      go_wp2
      all_goals
        first
        | (have hz : lowB s[k] = false := by (rw [HZ.out, ← Bool.not_eq_true]; intro e; simp at e; first | omega | (simp at *; omega)))
          (have hn := HN0.out hz)
          go_ret
          exact ⟨by rw [HB.out]; unfold wordB; rw [show (fun c : UInt8 => decide (97 ≤ c.toNat) && decide (c.toNat ≤ 122)) = lowB from rfl, hn, Bool.and_false]; rfl, rfl⟩
        | (have hz : lowB s[k] = true := by (rw [HZ.out]; simp; first | omega | (simp at *; omega)))
          go_round
          case rel => exact ⟨k + 1, by omega, by go_num, HR.out hz⟩
          case measure => simp [intOf]; omega
    · have hd : decide (k < s.size) = false := by rw [decide_eq_false_iff_not]; omega
      have HN := Lib.hid (all_of (f := lowB) fun j hs => HA.out j (by omega) hs)
      go_wp2
      all_goals
        go_ret
        refine ⟨?_, rfl⟩
        rw [HB.out]
        unfold wordB
        rw [show (fun c : UInt8 => decide (97 ≤ c.toNat) && decide (c.toNat ≤ 122)) = lowB from rfl, HN.out, Bool.and_true, str_len]
        exact ret_iff (by first | (simp; done) | (simp; omega))
end Go.Proofs.YtincpkncakppbaaDoor.Lin
