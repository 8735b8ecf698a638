/- The teller: names with great letters, who is on, kinds' names, lines to others. -/
import Derived.Test.YtheaghgockafmaaGreatWdV
import Derived.StillTailTactics
namespace Go.Proofs.YtheaghgockafmaaGreat.Wd
open Go.RowKit Go.Proofs.YtheaghgockafmaaGreat Go.Proofs.YtheaghgockafmaaGreat.Lin
set_option maxRecDepth 100000

/-! ### a great letter -/
def capL : List UInt8 → List UInt8
  | [] => []
  | c :: r => (if 97 ≤ c.toNat ∧ c.toNat ≤ 122 then c - 32 else c) :: r
def capF (s : ByteArray) : ByteArray := ⟨(capL s.data.toList).toArray⟩
theorem capL_len (l : List UInt8) : (capL l).length = l.length := by cases l <;> simp [capL]
theorem capF_size (s : ByteArray) : (capF s).size = s.size := by
  rw [← str_len, ← str_len, capF]; simp [capL_len]

set_option maxHeartbeats 1000000 in
theorem cap_any (s : ByteArray) (hs : s.size ≤ 1000000) {w : World} : Calls Tryz.prog 86 #[.string s] w fun e w' => e = .returned (.string (capF s)) ∧ Keep (fun _ => False) w w' := by
  obtain ⟨cap, w1, hr, hrow, hk, _⟩ := run_bytes_row1 (P := Tryz.prog) w 9 203 5 s Tryz.underlying9 Tryz.underlying203 Tryz.underlying5 (by unfold maxLen; omega)
  have HROW := Lib.hid hrow
  have HK := Lib.hid hk
  clear hrow hk
  obtain ⟨g, hg⟩ : ∃ g, g = w.heap.size := ⟨_, rfl⟩
  have HG := Lib.hid hg
  rw [← hg] at hr HROW
  clear hg
  rcases hl : s.data.toList with _ | ⟨c, r⟩
  · have h0 : s.size = 0 := by rw [← str_len, hl]; rfl
    have hd : decide (0 < (s.size : Int)) = false := by rw [decide_eq_false_iff_not]; omega
    have hd' : decide (0 < s.size) = false := by rw [decide_eq_false_iff_not]; omega
    have hcv := row_str (P := Tryz.prog) HROW.out Tryz.underlying203 Tryz.underlying5 Tryz.underlying9
    have HE : Hid (capF s = ⟨s.data.toList.toArray⟩) := Lib.hid (by rw [capF, hl]; rfl)
    clear hl h0
    go_enter Tryz.func86, Tryz.ntmps86
    go_wp2
    go_ret
    exact ⟨by rw [HE.out]; rfl, HK.out⟩
  · have h0 : 0 < s.size := by rw [← str_len, hl]; simp
    have hd : decide (0 < (s.size : Int)) = true := by rw [decide_eq_true_eq]; omega
    have hd' : decide (0 < s.size) = true := by rw [decide_eq_true_eq]; omega
    have hcell : w1.cell? ⟨g, 0, none⟩ = some (.int .u8 (c.toNat : Int)) := by
      have h := HROW.out.cellAt 0 (by omega)
      rw [bcells_get (c := c) (by rw [hl]; rfl)] at h
      exact h
    have hfz : w1.frozen? ⟨g, 0, none⟩ = false := by
      obtain ⟨_, _, hv, h1, _⟩ := HROW.out.slice
      simp only [Value.slice.injEq] at hv
      obtain ⟨_, _, rfl⟩ := hv
      exact (HROW.out.there 0 (by omega)).2
    by_cases hup : 97 ≤ c.toNat ∧ c.toNat ≤ 122
    · have g1 : decide (97 ≤ (c.toNat : Int)) = true := by rw [decide_eq_true_eq]; omega
      have g2 : decide ((c.toNat : Int) ≤ 122) = true := by rw [decide_eq_true_eq]; omega
      have hsub : ((c - 32 : UInt8).toNat : Int) = (c.toNat : Int) - 32 := by
        rw [UInt8.toNat_sub_of_le _ _ (by rw [UInt8.le_iff_toNat_le]; show 32 ≤ c.toNat; omega)]
        show ((c.toNat - 32 : Nat) : Int) = _
        omega
      have hst := HROW.out.stored 0 (.int .u8 ((c - 32 : UInt8).toNat : Int))
      rw [← bcells_set, hl, List.set_cons_zero, hsub] at hst
      have hcv := row_str (P := Tryz.prog) hst Tryz.underlying203 Tryz.underlying5 Tryz.underlying9
      have HE : Hid (capF s = ⟨((c - 32) :: r).toArray⟩) := Lib.hid (by rw [capF, hl, capL, if_pos hup])
      clear hl hst hsub
      go_enter Tryz.func86, Tryz.ntmps86
      go_wp2
      go_ret
      exact ⟨by rw [HE.out]; rfl, (HK.out.setCell _ _ (.inr (by show w.heap.size ≤ g; have := HG.out; omega)))⟩
    · have hcv := row_str (P := Tryz.prog) HROW.out Tryz.underlying203 Tryz.underlying5 Tryz.underlying9
      have HE : Hid (capF s = ⟨s.data.toList.toArray⟩) := Lib.hid (by rw [capF, hl, capL, if_neg hup])
      clear hl
      by_cases h1 : 97 ≤ c.toNat
      · have g1 : decide (97 ≤ (c.toNat : Int)) = true := by rw [decide_eq_true_eq]; omega
        have g2 : decide ((c.toNat : Int) ≤ 122) = false := by rw [decide_eq_false_iff_not]; omega
        go_enter Tryz.func86, Tryz.ntmps86
        go_wp2
        go_ret
        exact ⟨by rw [HE.out]; rfl, HK.out⟩
      · have g1 : decide (97 ≤ (c.toNat : Int)) = false := by rw [decide_eq_false_iff_not]; omega
        go_enter Tryz.func86, Tryz.ntmps86
        go_wp2
        go_ret
        exact ⟨by rw [HE.out]; rfl, HK.out⟩

theorem n_any (z : Int) (h1 : -9223372036854775808 ≤ z) (h2 : z ≤ 9223372036854775807) {w : World} : Calls Tryz.prog 267 #[.int .i64 z] w fun e w' => e = .returned (.string ⟨(printL z).toArray⟩) ∧ Keep (fun _ => False) w w' := by
  have HP := Lib.hid (refPrint_any (w := w) z h1 h2)
  go_enter Tryz.func267, Tryz.ntmps267
  go_wp2_with fail
  refine HP.out.mono ?_
  rintro e w1 ⟨⟨t, rfl, ht⟩, k⟩
  obtain rfl : t = ⟨(printL z).toArray⟩ := by rw [← str_eta t, ht]
  have K := Lib.hid k
  clear ht k
  go_wp2_with fail
  go_ret
  exact ⟨rfl, K.out⟩

end Go.Proofs.YtheaghgockafmaaGreat.Wd
