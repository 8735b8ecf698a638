/- What WalGroups does, at every number. -/
import Derived.Test.YtlhghhidmcadjaaDoorW3
import Derived.Test.YtlhghhidmcadjaaDoorErrG
namespace Go.Proofs.YtlhghhidmcadjaaDoor
open Go.RowKit
set_option maxRecDepth 100000

/-- What waits behind k puts. -/
structure Groups (W : Grp) (k : Nat) : Prop where
  len : W.length = min k 40
  keys : ∀ j, (glook W j).isSome = true → 60 ≤ j ∧ j < 60 + k
  first : 0 < k → (glook W 60).isSome = true

theorem Groups.step {W : Grp} {k : Nat} (h : Groups W k) (hg : GOk W) (hk : k < 40) (s : ByteArray) : Groups (gput W (60 + k) s) (k + 1) := by
  have hno : (glook W (60 + k)).isSome = false := by
    cases e : (glook W (60 + k)).isSome with
    | false => rfl
    | true => have := h.keys _ e; omega
  refine ⟨?_, fun j hj => ?_, fun _ => ?_⟩
  · rw [gput_length hg, hno]
    have := h.len
    simp only [Bool.false_eq_true, if_false]
    omega
  · rw [glook_put] at hj
    split at hj
    · omega
    · have := h.keys j hj; omega
  · rw [glook_put]
    split
    · rfl
    · exact h.first (by omega)

theorem Groups.more {W : Grp} {k : Nat} (h : Groups W k) (hk : 40 ≤ k) : Groups W (k + 1) :=
  ⟨by have := h.len; omega, fun j hj => by have := h.keys j hj; omega, fun _ => h.first (by omega)⟩

theorem Groups.no {W : Grp} {k : Nat} (h : Groups W k) : (glook W (60 + k)).isSome = false := by
  cases e : (glook W (60 + k)).isSome with
  | false => rfl
  | true => have := h.keys _ e; omega

theorem byte_of (k : Nat) (hk : k < 256) : ((k : Nat) : Int) = ((UInt8.ofNat k).toNat : Int) := by rw [UInt8.toNat_ofNat']; omega

theorem seen_byte (w : World) (k : Nat) (hk : k < 256) : Seen (w.alloc (.cells #[.int .u8 (k : Int)] 5)) 1 (.slice (some ⟨w.heap.size, 0, none⟩) 1 1) ([UInt8.ofNat k] : List UInt8).length (bcells [UInt8.ofNat k]) := by
  have h : Row (w.alloc (.cells #[.int .u8 (k : Int)] 5)) 5 1 (.slice (some ⟨w.heap.size, 0, none⟩) 1 1) 1 [.int .u8 (k : Int)] := Row.made #[.int .u8 (k : Int)] _ 1 rfl (by simp [maxLen]) rfl
  have := h.seen
  have e : bcells [UInt8.ofNat k] = [Value.int .u8 (k : Int)] := by rw [byte_of k hk]; rfl
  rw [e]
  exact this

theorem wg_out {w : World} (hT : Tab w) (n : Int) (h : n < 0 ∨ 60 < n) : Calls Tryd.prog 7 #[.int .i64 n] w fun e w' => e = .returned (.bool true) ∧ Keep (fun _ => False) w w' := by
  have HT := Lib.hid hT
  clear hT
  by_cases h0 : n < 0
  all_goals
    go_enter Tryd.func7, Tryd.ntmps7
    go_wp2_with (go_at_call 8; refine (begun3_any HT.out).mono ?_; rintro e w1 ⟨rfl, k1⟩; have K1 := Lib.hid k1; clear k1)
    go_ret
    exact ⟨rfl, K1.out⟩

attribute [-go_sem] Go.Lib.run_min_ints Go.run_min_int2

theorem min_40 {P : Program} (k : Nat) (m : Int) (h : min (k : Int) 40 = m) : ∀ (w : World) (ts : Array TypeId) (t : TypeId), (Builtin.min_ ts t #[.int .i64 k, .int .i64 40]).run P w = .ok (.int .i64 m) w := fun w ts t => by
  rw [Go.Lib.run_min_ints, h]

theorem Dg.keep {w0 wr : World} {p : Nat} {D : Dk} {n : Nat} (h : Dg w0 wr p D n) : Keep (fun _ => False) w0 wr := by
  obtain ⟨F, h1, h2, h3, h4⟩ := h
  exact h3

set_option maxHeartbeats 2000000 in
theorem wg_in {w : World} (hT : Tab w) (n : Nat) (h : n ≤ 60) : Calls Tryd.prog 7 #[.int .i64 (n : Int)] w fun e w' => e = .returned (.bool true) ∧ Keep (fun _ => False) w w' := by
  have HT := Lib.hid hT
  have ho := open_fresh (zeros_ok 200 (by omega)) (by rw [List.length_replicate]; omega)
  rw [List.length_replicate] at ho
  have HO := Lib.hid ho
  have HLM : Hid ((openD (Dk.fresh (List.replicate 200 zeroSec))).lim = false) := Lib.hid (by rw [open_lim]; rfl)
  clear hT ho
  go_enter Tryd.func7, Tryd.ntmps7
  go_wp2_with (go_at_call 8; refine (begun3_any HT.out).mono ?_; rintro e w1 ⟨rfl, k1⟩; have K1 := Lib.hid k1; clear k1)
  refine (new_g K1.out HT.out 200 (by omega) (by omega)).mono ?_
  rintro e w2 ⟨p, rfl, h2⟩
  have H2 := Lib.hid h2; clear h2
  go_wp2_with fail
  refine (open_g H2.out (by omega) (by simp [Dk.fresh]) (by simp [Dk.fresh]) HO.out.2.2).mono ?_
  rintro e w3 ⟨q, rfl, h3⟩
  have H3 := Lib.hid h3; clear h3 H2
  have HC := Lib.hid HO.out.1
  clear HO
  generalize openD (Dk.fresh (List.replicate 200 zeroSec)) = D1 at H3 HC HLM
  go_wp2
  go_loopw [6] (fun i wr => ∃ (k : Nat) (W : Grp), k ≤ n ∧ i = .int .i64 k ∧ Groups W k ∧ Lg w wr p q ⟨D1, W, [], []⟩ 50) (fun i _ => n - (intOf i).toNat)
  case atStart => exact ⟨0, [], by omega, rfl, ⟨rfl, by simp [glook], by omega⟩, H3.out⟩
  case round =>
    obtain ⟨k, W, hk, rfl, hW, hF⟩ := hrel
    have HW := Lib.hid hW; have HF := Lib.hid hF
    clear hW hF
    by_cases hlt : k < n
    · by_cases h40 : k < 40
      · have HP := Lib.hid (seen_byte wr k (by omega))
        go_wp2_with (first | (go_at_call 15; refine (full_any HP.out (by simp [Value.ownBlock])).mono ?_; rintro e w4 ⟨rfl, hr, k4, hs4⟩; simp only [World.size_alloc] at hr hs4; have H4 := Lib.hid (HF.out.go (((Keep.refl (fun _ => False) wr).alloc _).trans k4 (fun _ h => h.elim))); have HB := Lib.hid (secStr_bytes hr); clear hr k4 hs4) | (go_at_call 16; refine (put_g H4.out (60 + k) _ (by omega) (by rw [show (LogS.D ⟨D1, W, [], []⟩).las.length = 200 from HC.out.len]; exact home_in (by omega) (by omega)) _ 0 512 (secStr [UInt8.ofNat k]) (secStr_size _) HB.out (.inr (by have := HW.out.len; show W.length < 40; omega))).mono ?_; rintro e w5 ⟨rfl, h5⟩; have H5 := Lib.hid h5; clear h5))
        go_roundw
        case rel => exact ⟨k + 1, _, by omega, by go_num, HW.out.step HF.out.gok h40 _, H5.out⟩
        case measure => simp [intOf]; omega
      · have HP := Lib.hid (seen_byte wr k (by omega))
        go_wp2_with (first | (go_at_call 15; refine (full_any HP.out (by simp [Value.ownBlock])).mono ?_; rintro e w4 ⟨rfl, hr, k4, hs4⟩; simp only [World.size_alloc] at hs4; have H4 := Lib.hid (HF.out.go (((Keep.refl (fun _ => False) wr).alloc _).trans k4 (fun _ h => h.elim))); clear hr k4 hs4) | (go_at_call 16; refine (putfull_g H4.out (60 + k) _ (by omega) (by rw [show (LogS.D ⟨D1, W, [], []⟩).las.length = 200 from HC.out.len]; exact home_in (by omega) (by omega)) _ 512 HW.out.no (by have := HW.out.len; show W.length = 40; omega)).mono ?_; rintro e w5 ⟨r, rfl, hr5, h5, _, _⟩; have H5 := Lib.hid h5; have HR5 := Lib.hid hr5; clear h5 hr5) | (go_at_call 27; refine (is_group 2 rfl HR5.out).mono ?_; rintro e w' ⟨rfl, rfl⟩))
        go_roundw
        case rel => exact ⟨k + 1, _, by omega, by go_num, HW.out.more (by omega), H5.out⟩
        case measure => simp [intOf]; omega
    · obtain rfl : k = n := by omega
      have HSY : ∀ W' : Grp, deadB (syncD D1 W') = false := fun W' => live (by rw [sync_lim]; exact HLM.out)
      have HS := Lib.hid HSY
      clear HSY
      by_cases hz : k = 0
      · subst hz
        have hmin : ∀ (w : World) (ts : Array TypeId) (t : TypeId), (Builtin.min_ ts t #[.int .i64 0, .int .i64 40]).run Tryd.prog w = .ok (.int .i64 0) w := min_40 0 0 (by omega)
        have HWL : Hid (W.length = 0) := Lib.hid (by have := HW.out.len; omega)
        go_wp2_with (first | (have _t := HWL; go_at_call 28; refine (wait_g HF.out).mono ?_; rw [show (LogS.wait ⟨D1, W, [], []⟩).length = 0 from HWL.out]; rintro e w' ⟨rfl, rfl⟩; clear HWL) | (go_at_call 17; refine (sync_g HF.out (by omega) (HS.out _)).mono ?_; rintro e w5 ⟨rfl, h5⟩; have H5 := Lib.hid h5; clear h5) | (go_at_call 28; refine (wait_g H5.out).mono ?_; rintro e w' ⟨rfl, rfl⟩))
        go_ret
        exact ⟨rfl, H5.out.keep⟩
      · have HIS := Lib.hid (HW.out.first (by omega))
        obtain ⟨m, hm⟩ : ∃ m, m = W.length := ⟨_, rfl⟩
        have HWL := Lib.hid hm
        have hml : m = min k 40 := by rw [hm]; exact HW.out.len
        clear hm
        by_cases h40 : k ≤ 40
        · have hmk : m = k := by omega
          clear hml
          subst hmk
          have hmin := min_40 (P := Tryd.prog) m m (by omega)
          go_wp2_with (first | (have _t := HWL; go_at_call 28; refine (wait_g HF.out).mono ?_; rw [show (LogS.wait ⟨D1, W, [], []⟩).length = m from HWL.out.symm]; rintro e w' ⟨rfl, rfl⟩; clear HWL) | (go_at_call 15; refine (full_any (l := []) (Seen.nil wr 1) (by simp [Value.ownBlock])).mono ?_; rintro e w4 ⟨rfl, hr, k4, hs4⟩; have H4 := Lib.hid (HF.out.go k4); have HB := Lib.hid (secStr_bytes hr); clear hr k4 hs4) | (go_at_call 16; refine (put_g H4.out 60 _ rfl (by rw [show (LogS.D ⟨D1, W, [], []⟩).las.length = 200 from HC.out.len]; exact home_in (by omega) (by omega)) _ 0 512 (secStr []) (secStr_size _) HB.out (.inl HIS.out)).mono ?_; rintro e w5 ⟨rfl, h5⟩; have H5 := Lib.hid h5; clear h5) | (go_at_call 17; refine (sync_g H5.out (by omega) (HS.out _)).mono ?_; rintro e w6 ⟨rfl, h6⟩; have H6 := Lib.hid h6; clear h6) | (go_at_call 28; refine (wait_g H6.out).mono ?_; rintro e w' ⟨rfl, rfl⟩))
          go_ret
          exact ⟨rfl, H6.out.keep⟩
        · have hmk : m = 40 := by omega
          clear hml
          subst hmk
          have hmin := min_40 (P := Tryd.prog) k 40 (by omega)
          go_wp2_with (first | (have _t := HWL; go_at_call 28; refine (wait_g HF.out).mono ?_; rw [show (LogS.wait ⟨D1, W, [], []⟩).length = 40 from HWL.out.symm]; rintro e w' ⟨rfl, rfl⟩; clear HWL) | (go_at_call 15; refine (full_any (l := []) (Seen.nil wr 1) (by simp [Value.ownBlock])).mono ?_; rintro e w4 ⟨rfl, hr, k4, hs4⟩; have H4 := Lib.hid (HF.out.go k4); have HB := Lib.hid (secStr_bytes hr); clear hr k4 hs4) | (go_at_call 16; refine (put_g H4.out 60 _ rfl (by rw [show (LogS.D ⟨D1, W, [], []⟩).las.length = 200 from HC.out.len]; exact home_in (by omega) (by omega)) _ 0 512 (secStr []) (secStr_size _) HB.out (.inl HIS.out)).mono ?_; rintro e w5 ⟨rfl, h5⟩; have H5 := Lib.hid h5; clear h5) | (go_at_call 17; refine (sync_g H5.out (by omega) (HS.out _)).mono ?_; rintro e w6 ⟨rfl, h6⟩; have H6 := Lib.hid h6; clear h6) | (go_at_call 28; refine (wait_g H6.out).mono ?_; rintro e w' ⟨rfl, rfl⟩))
          go_ret
          exact ⟨rfl, H6.out.keep⟩

theorem wg_any {w : World} (hT : Tab w) (n : Int) : Calls Tryd.prog 7 #[.int .i64 n] w fun e w' => e = .returned (.bool true) ∧ Keep (fun _ => False) w w' := by
  by_cases h : n < 0 ∨ 60 < n
  · exact wg_out hT n h
  · obtain ⟨n, rfl⟩ := Int.eq_ofNat_of_zero_le (show 0 ≤ n by omega)
    exact wg_in hT n (by omega)

end Go.Proofs.YtlhghhidmcadjaaDoor
