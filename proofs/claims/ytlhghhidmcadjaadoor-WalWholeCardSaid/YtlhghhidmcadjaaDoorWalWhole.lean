/- WalWhole answers true: a group is there whole, or not at all. -/
import Derived.Test.YtlhghhidmcadjaaDoorWalWholeA
namespace Go.Proofs.YtlhghhidmcadjaaDoor
open Go.RowKit
set_option maxRecDepth 100000

set_option maxHeartbeats 4000000 in
theorem ww_in {w : World} (hT : Tab w) (n : Nat) (k : Nat) (vp : Value) (bs : List Bool) (h1 : 1 ≤ n) (h2 : n ≤ 40) (h3 : k ≤ 120) (hp : Seen w 1 vp bs.length (bools bs)) (hpn : ∀ b, vp.ownBlock = some b → 0 < bs.length → b < w.heap.size) :
    Calls Tryd.prog 6 #[.int .i64 (n : Int), .int .i64 (k : Int), vp] w fun e w' => e = .returned (.bool true) ∧ Keep (fun _ => False) w w' := by
  have HT := Lib.hid hT
  have HP := Lib.hid hp; have HPN := Lib.hid hpn
  obtain ⟨_, ap, cp, rfl, _, _, _⟩ := hp
  have ho := open_fresh (zeros_ok 200 (by omega)) (by rw [List.length_replicate]; omega)
  rw [List.length_replicate] at ho
  have HO := Lib.hid ho
  have HLM : Hid ((openD (Dk.fresh (List.replicate 200 zeroSec))).lim = false) := Lib.hid (by rw [open_lim]; rfl)
  clear hT ho hpn
  go_enter Tryd.func6, Tryd.ntmps6
  go_wp2_with (go_at_call 8; refine (begun3_any HT.out).mono ?_; rintro e w1 ⟨rfl, k1⟩; have K1 := Lib.hid k1; clear k1)
  refine (new_g K1.out HT.out 200 (by omega) (by omega)).mono ?_
  rintro e w2 ⟨p, rfl, h2'⟩
  have H2 := Lib.hid h2'; clear h2'
  go_wp2_with fail
  refine (open_g H2.out (by omega) (by simp [Dk.fresh]) (by simp [Dk.fresh]) HO.out.2.2).mono ?_
  rintro e w3 ⟨q, rfl, h3'⟩
  have H3 := Lib.hid h3'; clear h3' H2
  have HC := Lib.hid HO.out.1
  clear HO
  generalize openD (Dk.fresh (List.replicate 200 zeroSec)) = D1 at H3 HC HLM
  go_wp2
  go_loopw [11] (fun i wr => ∃ (j : Nat), j ≤ n ∧ i = .int .i64 j ∧ Lg w wr p q ⟨D1, wg 1 j, [], []⟩ 50) (fun i _ => n - (intOf i).toNat)
  case atStart => exact ⟨0, by omega, rfl, H3.out⟩
  case round =>
    obtain ⟨j, hj, rfl, hF⟩ := hrel
    have HF := Lib.hid hF
    clear hF H3
    by_cases hlt : j < n
    · go_wp2_with (first | (go_at_call 15; refine (full_any (l := [1]) (Row.made #[Value.int .u8 1] _ 1 rfl (by simp [maxLen]) rfl).seen (by simp [Value.ownBlock])).mono ?_; rintro e w4 ⟨rfl, hr, k4, hs4⟩; simp only [World.size_alloc] at hr hs4; have H4 := Lib.hid (HF.out.go (((Keep.refl (fun _ => False) wr).alloc _).trans k4 (fun _ h => h.elim))); have HB := Lib.hid (secStr_bytes hr); clear hr k4 hs4) | (go_at_call 16; refine (put_g H4.out (48 + 3 * j) _ (by omega) (by rw [show (LogS.D ⟨D1, wg 1 j, [], []⟩).las.length = 200 from HC.out.len]; exact home_in (by omega) (by omega)) _ 0 512 (secStr [1]) (secStr_size _) HB.out (.inr (by have := wg_len 1 j; show (wg 1 j).length < 40; omega))).mono ?_; rintro e w5 ⟨rfl, h5⟩; have H5 := Lib.hid h5; clear h5))
      go_roundw
      case rel => exact ⟨j + 1, by omega, by go_num, H5.out⟩
      case measure => simp [intOf]; omega
    · obtain rfl : j = n := by omega
      go_wp2_with fail
      refine (sync_g HF.out (by omega) (live (by rw [sync_lim]; exact HLM.out))).mono ?_
      rintro e w6 ⟨rfl, h6⟩
      have H6 := Lib.hid (show Lg w w6 p q ⟨syncD D1 (wg 1 j), wg 2 0, [], []⟩ 150 from h6); clear h6 HF
      go_wp2
      go_loopw [12] (fun i wr => ∃ (m : Nat), m ≤ j ∧ i = .int .i64 m ∧ Lg w wr p q ⟨syncD D1 (wg 1 j), wg 2 m, [], []⟩ 150) (fun i _ => j - (intOf i).toNat)
      case atStart => exact ⟨0, by omega, rfl, H6.out⟩
      case round =>
        obtain ⟨m, hm, rfl, hF⟩ := hrel
        have HF := Lib.hid hF
        have HL2 : Hid ((syncD D1 (wg 1 j)).las.length = 200) := Lib.hid (by rw [syncD_len]; exact HC.out.len)
        clear hF H6
        by_cases hlt2 : m < j
        · go_wp2_with (first | (go_at_call 15; refine (full_any (l := [2]) (Row.made #[Value.int .u8 2] _ 1 rfl (by simp [maxLen]) rfl).seen (by simp [Value.ownBlock])).mono ?_; rintro e w4 ⟨rfl, hr, k4, hs4⟩; simp only [World.size_alloc] at hr hs4; have H4 := Lib.hid (HF.out.go (((Keep.refl (fun _ => False) wr).alloc _).trans k4 (fun _ h => h.elim))); have HB := Lib.hid (secStr_bytes hr); clear hr k4 hs4) | (go_at_call 16; refine (put_g H4.out (48 + 3 * m) _ (by omega) (by rw [show (LogS.D ⟨syncD D1 (wg 1 j), wg 2 m, [], []⟩).las.length = 200 from HL2.out]; exact home_in (by omega) (by omega)) _ 0 512 (secStr [2]) (secStr_size _) HB.out (.inr (by have := wg_len 2 m; show (wg 2 m).length < 40; omega))).mono ?_; rintro e w5 ⟨rfl, h5⟩; have H5 := Lib.hid h5; clear h5))
          go_roundw
          case rel => exact ⟨m + 1, by omega, by go_num, H5.out⟩
          case measure => simp [intOf]; omega
        · obtain rfl : m = j := by omega
          go_wp2_with fail
          refine (limit_lg HF.out k (by omega) (live (by rw [show (LogS.D ⟨syncD D1 (wg 1 m), wg 2 m, [], []⟩) = syncD D1 (wg 1 m) from rfl, sync_lim]; exact HLM.out))).mono ?_
          rintro e w7 ⟨rfl, h7⟩
          have H7 := Lib.hid h7; clear h7 HF
          go_wp2_with fail
          refine (sync_d H7.out (by omega) (wg_ne 2 m (by omega))).mono ?_
          rintro e w8 ⟨rv, rfl, hrv, h8⟩
          obtain ⟨D4, hD4⟩ : ∃ D4, D4 = syncD ((syncD D1 (wg 1 m)).limit k) (wg 2 m) := ⟨_, rfl⟩
          have H8 := Lib.hid (show Dg w w8 p D4 250 from by rw [hD4]; exact h8)
          have HRV := Lib.hid (show deadB D4 = false ∧ rv = .nilIface ∨ deadB D4 = true ∧ rv = apiErr 4 from by rw [hD4]; exact hrv)
          have HL4 : Hid (D4.las.length = 200) := Lib.hid (by rw [hD4, syncD_len]; exact HL2.out)
          have HWV : Hid ((D4.crash bs).Ok → deadB (openD (D4.crash bs)) = false ∧ (D4.crash bs).las.length = 200 ∧ ∃ v : UInt8, (deadB D4 = true ∧ v = 1 ∨ v = 2) ∧ ∀ j, j < m → LogS.read ⟨openD (D4.crash bs), [], [], []⟩ (48 + 3 * j) = secStr [v]) := Lib.hid (fun hok => by
            rw [hD4] at hok ⊢
            exact whole_val HC.out HLM.out m (by omega) h2 k bs hok)
          obtain ⟨db, hdb⟩ : ∃ db, deadB D4 = db := ⟨_, rfl⟩
          have HDB := Lib.hid hdb
          clear h8 hrv H7 hD4 hdb
          go_wp2_with fail
          refine (dead_g H8.out).mono ?_
          rw [HDB.out]
          rintro e w9 ⟨rfl, rfl⟩
          have HPW := Lib.hid (HP.out.keep H8.out.keep (fun _ _ _ h => h))
          go_wp2_with fail
          refine (dcrash_g H8.out (by rw [HL4.out]; omega) HPW.out (fun b hb h0 => Nat.lt_of_lt_of_le (HPN.out b hb h0) H8.out.keep.size)).mono ?_
          rintro e w10 ⟨p2, rfl, h10, k10⟩
          have H10 := Lib.hid h10; clear h10 k10
          have HV := Lib.hid (HWV.out H10.out.ok)
          go_wp2_with fail
          refine (open_g H10.out (by omega) (by rw [HV.out.2.1]; omega) (by rw [HV.out.2.1]; omega) HV.out.1).mono ?_
          rintro e w11 ⟨q2, rfl, h11⟩
          have H11 := Lib.hid (show Lg w w11 p2 q2 ⟨openD (D4.crash bs), [], [], []⟩ 50 from h11); clear h11 H10
          have HL5 : Hid ((openD (D4.crash bs)).las.length = 200) := Lib.hid (by rw [openD_len]; exact HV.out.2.1)
          obtain ⟨v, hv, hread⟩ := HV.out.2.2
          have HR := Lib.hid hread; clear hread HV HWV H8
          generalize openD (D4.crash bs) = D5 at H11 HL5 HR
          have hne : ((0 : Int) == (m : Int)) = false := by simp; omega
          have hne2 : ¬ ((0 : Int) = (m : Int)) := by omega
          have hne3 : ¬ (m = 0) := by omega
          have hrv := HRV.out
          have hdb := HDB.out
          clear HRV HDB
          rcases hrv with ⟨hd, rfl⟩ | ⟨hd, rfl⟩
          · obtain rfl : db = false := hdb.symm.trans hd
            obtain rfl : v = 2 := by
              rcases hv with ⟨hd', _⟩ | h
              · rw [hd] at hd'; cases hd'
              · exact h
            clear hv hd hdb
            go_wp2
            go_loopw [16, 17, 18] (fun o t i wr => ∃ (j2 : Nat), j2 ≤ m ∧ i = .int .i64 j2 ∧ o = .int .i64 0 ∧ t = .int .i64 ((j2 : Nat) : Int) ∧ Lg w wr p2 q2 ⟨D5, [], [], []⟩ 50) (fun _ _ i _ => m - (intOf i).toNat)
            case atStart => exact ⟨0, by omega, rfl, rfl, rfl, H11.out⟩
            case round =>
              obtain ⟨j2, hj2, rfl, rfl, rfl, hF⟩ := hrel
              have HF := Lib.hid hF
              clear hF
              by_cases hlt3 : j2 < m
              · go_wp2_with fail
                refine (read_g HF.out (48 + 3 * j2) _ (by omega) (by show homeB D5.las.length _ = true; rw [HL5.out]; exact home_in (by omega) (by omega))).mono ?_
                rintro e w12 ⟨vr, rfl, hn, h12⟩
                rw [HR.out j2 hlt3] at hn
                obtain ⟨g8, cap8, rfl⟩ := hn.shape
                have c9 := hn.cell0 0 (by omega)
                rw [secStr_at] at c9
                have H12 := Lib.hid h12
                clear hn h12
                go_wp2
                go_roundw
                case rel => exact ⟨j2 + 1, by omega, by go_num, rfl, by go_num, H12.out⟩
                case measure => simp [intOf]; omega
              · obtain rfl : j2 = m := by omega
                go_wp2
                go_ret
                exact ⟨rfl, HF.out.keep⟩
          · obtain rfl : db = true := hdb.symm.trans hd
            clear hd hdb
            rcases hv with ⟨_, rfl⟩ | rfl
            · have _k := hne
              go_wp2
              go_loopw [16, 17, 18] (fun o t i wr => ∃ (j2 : Nat), j2 ≤ m ∧ i = .int .i64 j2 ∧ o = .int .i64 ((j2 : Nat) : Int) ∧ t = .int .i64 0 ∧ Lg w wr p2 q2 ⟨D5, [], [], []⟩ 50) (fun _ _ i _ => m - (intOf i).toNat)
              case atStart => exact ⟨0, by omega, rfl, rfl, rfl, H11.out⟩
              case round =>
                obtain ⟨j2, hj2, rfl, rfl, rfl, hF⟩ := hrel
                have HF := Lib.hid hF
                clear hF
                by_cases hlt3 : j2 < m
                · go_wp2_with fail
                  refine (read_g HF.out (48 + 3 * j2) _ (by omega) (by show homeB D5.las.length _ = true; rw [HL5.out]; exact home_in (by omega) (by omega))).mono ?_
                  rintro e w12 ⟨vr, rfl, hn, h12⟩
                  rw [HR.out j2 hlt3] at hn
                  obtain ⟨g8, cap8, rfl⟩ := hn.shape
                  have c9 := hn.cell0 0 (by omega)
                  rw [secStr_at] at c9
                  have H12 := Lib.hid h12
                  clear hn h12
                  go_wp2
                  go_roundw
                  case rel => exact ⟨j2 + 1, by omega, by go_num, by go_num, rfl, H12.out⟩
                  case measure => simp [intOf]; omega
                · obtain rfl : j2 = m := by omega
                  go_wp2
                  go_ret
                  exact ⟨rfl, HF.out.keep⟩
            · have _k := hne
              go_wp2
              go_loopw [16, 17, 18] (fun o t i wr => ∃ (j2 : Nat), j2 ≤ m ∧ i = .int .i64 j2 ∧ o = .int .i64 0 ∧ t = .int .i64 ((j2 : Nat) : Int) ∧ Lg w wr p2 q2 ⟨D5, [], [], []⟩ 50) (fun _ _ i _ => m - (intOf i).toNat)
              case atStart => exact ⟨0, by omega, rfl, rfl, rfl, H11.out⟩
              case round =>
                obtain ⟨j2, hj2, rfl, rfl, rfl, hF⟩ := hrel
                have HF := Lib.hid hF
                clear hF
                by_cases hlt3 : j2 < m
                · go_wp2_with fail
                  refine (read_g HF.out (48 + 3 * j2) _ (by omega) (by show homeB D5.las.length _ = true; rw [HL5.out]; exact home_in (by omega) (by omega))).mono ?_
                  rintro e w12 ⟨vr, rfl, hn, h12⟩
                  rw [HR.out j2 hlt3] at hn
                  obtain ⟨g8, cap8, rfl⟩ := hn.shape
                  have c9 := hn.cell0 0 (by omega)
                  rw [secStr_at] at c9
                  have H12 := Lib.hid h12
                  clear hn h12
                  go_wp2
                  go_roundw
                  case rel => exact ⟨j2 + 1, by omega, by go_num, rfl, by go_num, H12.out⟩
                  case measure => simp [intOf]; omega
                · obtain rfl : j2 = m := by omega
                  go_wp2
                  go_ret
                  exact ⟨rfl, HF.out.keep⟩

theorem ww_any {w : World} (hT : Tab w) (n k : Int) (vp : Value) (bs : List Bool) (hp : Seen w 1 vp bs.length (bools bs)) (hpn : ∀ b, vp.ownBlock = some b → 0 < bs.length → b < w.heap.size) : Calls Tryd.prog 6 #[.int .i64 n, .int .i64 k, vp] w fun e w' => e = .returned (.bool true) ∧ Keep (fun _ => False) w w' := by
  by_cases h : n < 1 ∨ 40 < n ∨ k < 0 ∨ 120 < k
  · exact ww_out hT n k vp h
  · obtain ⟨n, rfl⟩ := Int.eq_ofNat_of_zero_le (show 0 ≤ n by omega)
    obtain ⟨k, rfl⟩ := Int.eq_ofNat_of_zero_le (show 0 ≤ k by omega)
    exact ww_in hT n k vp bs (by omega) (by omega) (by omega) hp hpn

end Go.Proofs.YtlhghhidmcadjaaDoor
