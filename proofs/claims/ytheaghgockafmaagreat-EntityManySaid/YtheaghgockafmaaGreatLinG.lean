/- Texts: the program's Lower and Word. -/
import Derived.Test.YtheaghgockafmaaGreatLinLaw
namespace Go.Proofs.YtheaghgockafmaaGreat.Lin
open Go.RowKit Go.Maps Go.Proofs.YtheaghgockafmaaGreat
set_option maxRecDepth 100000


set_option maxHeartbeats 1000000 in
theorem word_any (s : ByteArray) (hs : s.size ≤ 1000000) {w : World} : Calls Tryz.prog 223 #[.string s] w fun e w' => e = .returned (.bool (wordB s.data.toList)) ∧ w = w' := by
  obtain ⟨b, hb⟩ : ∃ b, b = wordB s.data.toList := ⟨_, rfl⟩
  rw [← hb]
  have HB := Lib.hid hb
  clear hb
  go_enter Tryz.func223, Tryz.ntmps223
  by_cases h0 : s.size = 0
  · obtain rfl : s = ⟨#[]⟩ := by
      apply ByteArray.ext; apply Array.ext' ; simpa using (List.eq_nil_of_length_eq_zero (by simpa using h0) : s.data.toList = [])
    go_wp2
    go_ret
    exact ⟨by rw [HB.out]; rfl, rfl⟩
  have hq : (s.toList == ([] : List UInt8)) = false := by
    rw [ByteArray.toList_eq, beq_eq_false_iff_ne]; intro e; apply h0; rw [← str_len, e]; rfl
  by_cases h24 : 24 < s.size
  · have hd : decide (24 < (s.size : Int)) = true := by rw [decide_eq_true_eq]; omega
    go_wp2
    go_ret
    exact ⟨by rw [HB.out]; unfold wordB; rw [decide_eq_false (p := s.data.toList.length ≤ 24) (by rw [str_len]; omega), Bool.and_false, Bool.false_and]; rfl, rfl⟩
  have hd24 : decide (24 < (s.size : Int)) = false := by rw [decide_eq_false_iff_not]; omega
  go_wp2
  go_loop [3, 13] (fun _ iv => AllR lowB s iv) (fun _ iv => s.size - (intOf iv).toNat)
  case atStart => exact ⟨0, by omega, rfl, fun j hj => by omega⟩
  case round =>
    obtain ⟨k, hk, rfl, hall⟩ := hrel.ex
    have HA := Lib.hid hall
    clear hall hrel
    by_cases hlt : k < s.size
    · have HN0 := Lib.hid (fun h : lowB s[k] = false => all_not (f := lowB) hlt h)
      have HR := Lib.hid (AllR.next HA.out hlt)
      have HZ : Hid (lowB s[k] = (decide (97 ≤ (s[k].toNat : Int)) && decide ((s[k].toNat : Int) ≤ 122))) := Lib.hid (by unfold lowB; congr 1 <;> (rw [Bool.eq_iff_iff]; simp; try omega))
      go_wp2
      all_goals
        first
        | (have hz : lowB s[k] = false := by (rw [HZ.out, ← Bool.not_eq_true]; intro e; simp at e; first | omega | (simp at *; omega)))
          (have hn := HN0.out hz)
          go_ret
          exact ⟨by rw [HB.out]; unfold wordB; rw [show (fun c : UInt8 => decide (97 ≤ c.toNat) && decide (c.toNat ≤ 122)) = lowB from rfl, hn, Bool.and_false]; rfl, rfl⟩
        | (have hz : lowB s[k] = true := by (rw [HZ.out]; simp; first | omega | (simp at *; omega)))
          go_round
          case rel => exact ⟨k + 1, by omega, by go_num, HR.out hz⟩
          case measure => simp [intOf]; omega
    · have hd : decide (k < s.size) = false := by rw [decide_eq_false_iff_not]; omega
      have HN := Lib.hid (all_of (f := lowB) fun j hs => HA.out j (by omega) hs)
      go_wp2
      all_goals
        go_ret
        refine ⟨?_, rfl⟩
        rw [HB.out]
        unfold wordB
        rw [show (fun c : UInt8 => decide (97 ≤ c.toNat) && decide (c.toNat ≤ 122)) = lowB from rfl, HN.out, Bool.and_true, str_len]
        exact ret_iff (by first | (simp; done) | (simp; omega))
end Go.Proofs.YtheaghgockafmaaGreat.Lin
