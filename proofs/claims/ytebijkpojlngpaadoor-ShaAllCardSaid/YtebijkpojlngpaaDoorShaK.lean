/- ShaAll answers true: any bytes have their hash, at every length. -/
import Derived.Test.YtebijkpojlngpaaDoorShaJ
namespace Go.Proofs.YtebijkpojlngpaaDoor.Sha
open Go.RowKit Go.Proofs.YtebijkpojlngpaaDoor
set_option maxRecDepth 100000

structure FillC (w1 : World) (g n : Nat) (i : Value) (wr : World) : Prop where
  ex : ∃ (k : Nat) (X : List UInt8), k ≤ n ∧ i = .int .i64 (k : Int) ∧ X.length = n ∧ Row wr 5 1 (.slice (some ⟨g, 0, none⟩) n n) n (bcells X) ∧ Keep (fun x => x = g) w1 wr

theorem FillC.step {w1 wr : World} {g n k : Nat} {X : List UInt8} (hk : k < n) (hX : X.length = n) (hR : Row wr 5 1 (.slice (some ⟨g, 0, none⟩) n n) n (bcells X)) (hK : Keep (fun x => x = g) w1 wr) (c : UInt8) :
    FillC w1 g n (.int .i64 ((k : Int) + 1)) (wr.setCell ⟨g, k, none⟩ (.int .u8 ((c.toNat : Nat) : Int))) := by
  refine ⟨k + 1, X.set k c, by omega, by rw [Int.natCast_add]; rfl, by simpa using hX, ?_, hK.setCell _ _ (.inl rfl)⟩
  have h := hR.stored k (.int .u8 ((c.toNat : Nat) : Int))
  rw [bcells_set, Nat.zero_add] at h
  exact h

set_option maxHeartbeats 4000000 in
theorem shaAll_any {w : World} {v : Value} {l : List UInt8} (hR : Roots w) (h : Seen w 1 v l.length (bcells l)) (n : Int) :
    Calls Tryd.prog 3 #[v, .int .i64 n] w fun e w' => e = .returned (.bool true) ∧ Keep (fun _ => False) w w' := by
  have HR := Lib.hid hR
  have HS := Lib.hid h
  obtain ⟨Z, HZ, hZ, HZZ⟩ := z32
  obtain ⟨i0, hi0, hz0, hz1, hz2⟩ := info_parts Tryd.infoB
  obtain ⟨_, ab0, cap0, rfl, hlc0, hcm0, _⟩ := h
  obtain ⟨m, hm⟩ : ∃ m, m = l.take 200 := ⟨_, rfl⟩
  have hml : m.length ≤ 200 := by rw [hm]; exact List.length_take_le 200 l
  have HM := Lib.hid hm
  have HML := Lib.hid hml
  clear hR hm hml
  have hcase : n < 0 ∨ 130 < n ∨ (0 ≤ n ∧ n ≤ 130) := by omega
  rcases hcase with hc | hc | ⟨hc, hc'⟩
  · go_enter Tryd.func3, Tryd.ntmps3
    go_wp2_with fail
    refine (begun8_any HR.out).mono ?_
    rintro e w1 ⟨rfl, k1⟩
    have K1 := Lib.hid k1
    have S1 := Lib.hid (HS.out.keep k1 (fun _ _ _ h => h))
    clear k1
    go_wp2_with fail
    refine (short8_is 200 S1.out HM.out (by omega)).mono ?_
    rintro e w2 ⟨u, rfl, hu, rfl⟩
    obtain ⟨au, cu, rfl⟩ : ∃ au cu, u = .slice au m.length cu := by
      obtain ⟨_, a, c, hv, _⟩ := hu
      exact ⟨a, c, hv⟩
    have SU := Lib.hid hu
    clear hu
    go_wp2_with fail
    have KS := K1
    obtain ⟨D, hD⟩ : ∃ D, D = sumOf m := ⟨_, rfl⟩
    have hDl : D.length = 32 := by rw [hD]; rfl
    have hDs : (bC D).size = 32 := by rw [bC_size, hDl]
    have HSM := Lib.hid (sum_any (HR.out.keep KS.out (fun h => h)) SU.out (by have := HML.out; omega))
    rw [← hD] at HSM
    have HD := Lib.hid hD
    clear hD
    refine HSM.out.mono ?_
    rintro e wa ⟨rfl, ka⟩
    have KA := Lib.hid (KS.out.trans ka (fun _ h => h.elim))
    have SA := Lib.hid (SU.out.keep ka (fun _ _ _ h => h))
    clear ka
    have KB := Lib.hid (KA.out.alloc (.cells (bC D) 25))
    have SB := Lib.hid (SA.out.keep ((Keep.refl (fun _ => False) wa).alloc (.cells (bC D) 25)) (fun _ _ _ h => h))
    have CB : Hid (BAt (wa.alloc (.cells (bC D) 25)) 25 wa.heap.size D) := Lib.hid (heap_alloc_new wa _)
    go_wp2_with (first | (refine wpList_var_arr HZ (by rw [hDs]; exact Tryd.info32b) (by rw [hDs, hZ]) (bC_one _) rfl rfl rfl _ _ rfl rfl rfl ?_))
    generalize wa.alloc (.cells (bC D) 25) = wb at *
    obtain ⟨B8, hB8⟩ : ∃ B8, B8 = wa.heap.size := ⟨_, rfl⟩
    rw [← hB8] at CB ⊢
    clear hB8
    have HCV := Lib.hid (fun (w9 : World) (g : Nat) (hb : BAt w9 25 g D) => (run_string_of_bytes (fun j hj => by rw [Nat.zero_add]; exact hb.cell j hj) _ _ _ 32 32 hDl Tryd.underlying22 Tryd.underlying5 Tryd.underlying9 : (convert 22 9 (.slice (some ⟨g, 0, none⟩) 32 32)).run Tryd.prog w9 = .ok (.string ⟨D.toArray⟩) w9))
    have cv0 := HCV.out wb B8 CB.out
    have cv1 := HCV.out wb.drew B8 CB.out
    have hsl := slArr
    have HH := Lib.hid (fun (w9 : World) (k9 : Keep (fun _ => False) wb w9) => hash_any (SB.out.keep k9 (fun _ _ _ h => h)) (by have := HML.out; omega))
    have HX := Lib.hid (fun (w9 : World) (k9 : Keep (fun _ => False) wb w9) => hex_any (HR.out.keep (KB.out.trans k9 (fun _ h => h.elim)) (fun h => h)) (SB.out.keep k9 (fun _ _ _ h => h)) (by have := HML.out; omega))
    have HRX := Lib.hid (fun (w9 : World) (k9 : Keep (fun _ => False) wb w9) => rhex_any (SB.out.keep k9 (fun _ _ _ h => h)) (by have := HML.out; omega))
    rw [← HD.out] at HH HX HRX
    obtain ⟨T, hT⟩ : ∃ T, T = hexOf D := ⟨_, rfl⟩
    rw [← hT] at HX HRX
    clear hT
    go_region_with (first
      | (go_at_call 8; (with_reducible refine (HH.out _ ((Keep.refl (fun _ => False) wb).drew)).mono ?_); rintro e w5 ⟨g5, rfl, h5, k5⟩; have k6 : Keep (fun _ => False) wb w5 := ((Keep.refl (fun _ => False) wb).drew).trans k5 (fun _ h => h.elim); have K5 := Lib.hid k6; have cv5 := HCV.out w5 B8 (CB.out.keep k6 (fun h => h)); have cvh := HCV.out w5 g5 h5; clear k5 k6 h5)
      | (go_at_call 9; (with_reducible refine (HX.out _ K5.out).mono ?_); rintro e w6 ⟨rfl, k6⟩; have K6 := Lib.hid (K5.out.trans k6 (fun _ h => h.elim)); clear k6)
      | (go_at_call 10; (with_reducible refine (HRX.out _ K6.out).mono ?_); rintro e w7 ⟨rfl, k7⟩; have K7 := Lib.hid (K6.out.trans k7 (fun _ h => h.elim)); clear k7))
    all_goals
      have KF := Lib.hid (KB.out.trans K7.out (fun _ h => h.elim))
      go_simp
      go_wp2
      go_ret
      exact ⟨rfl, by first | exact KF.out | exact KF.out.drew⟩
  · go_enter Tryd.func3, Tryd.ntmps3
    go_wp2_with fail
    refine (begun8_any HR.out).mono ?_
    rintro e w1 ⟨rfl, k1⟩
    have K1 := Lib.hid k1
    have S1 := Lib.hid (HS.out.keep k1 (fun _ _ _ h => h))
    clear k1
    go_wp2_with fail
    refine (short8_is 200 S1.out HM.out (by omega)).mono ?_
    rintro e w2 ⟨u, rfl, hu, rfl⟩
    obtain ⟨au, cu, rfl⟩ : ∃ au cu, u = .slice au m.length cu := by
      obtain ⟨_, a, c, hv, _⟩ := hu
      exact ⟨a, c, hv⟩
    have SU := Lib.hid hu
    clear hu
    go_wp2_with fail
    have KS := K1
    obtain ⟨D, hD⟩ : ∃ D, D = sumOf m := ⟨_, rfl⟩
    have hDl : D.length = 32 := by rw [hD]; rfl
    have hDs : (bC D).size = 32 := by rw [bC_size, hDl]
    have HSM := Lib.hid (sum_any (HR.out.keep KS.out (fun h => h)) SU.out (by have := HML.out; omega))
    rw [← hD] at HSM
    have HD := Lib.hid hD
    clear hD
    refine HSM.out.mono ?_
    rintro e wa ⟨rfl, ka⟩
    have KA := Lib.hid (KS.out.trans ka (fun _ h => h.elim))
    have SA := Lib.hid (SU.out.keep ka (fun _ _ _ h => h))
    clear ka
    have KB := Lib.hid (KA.out.alloc (.cells (bC D) 25))
    have SB := Lib.hid (SA.out.keep ((Keep.refl (fun _ => False) wa).alloc (.cells (bC D) 25)) (fun _ _ _ h => h))
    have CB : Hid (BAt (wa.alloc (.cells (bC D) 25)) 25 wa.heap.size D) := Lib.hid (heap_alloc_new wa _)
    go_wp2_with (first | (refine wpList_var_arr HZ (by rw [hDs]; exact Tryd.info32b) (by rw [hDs, hZ]) (bC_one _) rfl rfl rfl _ _ rfl rfl rfl ?_))
    generalize wa.alloc (.cells (bC D) 25) = wb at *
    obtain ⟨B8, hB8⟩ : ∃ B8, B8 = wa.heap.size := ⟨_, rfl⟩
    rw [← hB8] at CB ⊢
    clear hB8
    have HCV := Lib.hid (fun (w9 : World) (g : Nat) (hb : BAt w9 25 g D) => (run_string_of_bytes (fun j hj => by rw [Nat.zero_add]; exact hb.cell j hj) _ _ _ 32 32 hDl Tryd.underlying22 Tryd.underlying5 Tryd.underlying9 : (convert 22 9 (.slice (some ⟨g, 0, none⟩) 32 32)).run Tryd.prog w9 = .ok (.string ⟨D.toArray⟩) w9))
    have cv0 := HCV.out wb B8 CB.out
    have cv1 := HCV.out wb.drew B8 CB.out
    have hsl := slArr
    have HH := Lib.hid (fun (w9 : World) (k9 : Keep (fun _ => False) wb w9) => hash_any (SB.out.keep k9 (fun _ _ _ h => h)) (by have := HML.out; omega))
    have HX := Lib.hid (fun (w9 : World) (k9 : Keep (fun _ => False) wb w9) => hex_any (HR.out.keep (KB.out.trans k9 (fun _ h => h.elim)) (fun h => h)) (SB.out.keep k9 (fun _ _ _ h => h)) (by have := HML.out; omega))
    have HRX := Lib.hid (fun (w9 : World) (k9 : Keep (fun _ => False) wb w9) => rhex_any (SB.out.keep k9 (fun _ _ _ h => h)) (by have := HML.out; omega))
    rw [← HD.out] at HH HX HRX
    obtain ⟨T, hT⟩ : ∃ T, T = hexOf D := ⟨_, rfl⟩
    rw [← hT] at HX HRX
    clear hT
    go_region_with (first
      | (go_at_call 8; (with_reducible refine (HH.out _ ((Keep.refl (fun _ => False) wb).drew)).mono ?_); rintro e w5 ⟨g5, rfl, h5, k5⟩; have k6 : Keep (fun _ => False) wb w5 := ((Keep.refl (fun _ => False) wb).drew).trans k5 (fun _ h => h.elim); have K5 := Lib.hid k6; have cv5 := HCV.out w5 B8 (CB.out.keep k6 (fun h => h)); have cvh := HCV.out w5 g5 h5; clear k5 k6 h5)
      | (go_at_call 9; (with_reducible refine (HX.out _ K5.out).mono ?_); rintro e w6 ⟨rfl, k6⟩; have K6 := Lib.hid (K5.out.trans k6 (fun _ h => h.elim)); clear k6)
      | (go_at_call 10; (with_reducible refine (HRX.out _ K6.out).mono ?_); rintro e w7 ⟨rfl, k7⟩; have K7 := Lib.hid (K6.out.trans k7 (fun _ h => h.elim)); clear k7))
    all_goals
      have KF := Lib.hid (KB.out.trans K7.out (fun _ h => h.elim))
      go_simp
      go_wp2
      go_ret
      exact ⟨rfl, by first | exact KF.out | exact KF.out.drew⟩
  · obtain ⟨q, rfl⟩ : ∃ q : Nat, n = (q : Int) := ⟨n.toNat, by omega⟩
    have hq : q ≤ 130 := by omega
    go_enter Tryd.func3, Tryd.ntmps3
    go_wp2_with fail
    refine (begun8_any HR.out).mono ?_
    rintro e w1 ⟨rfl, k1⟩
    have K1 := Lib.hid k1
    have S1 := Lib.hid (HS.out.keep k1 (fun _ _ _ h => h))
    clear k1
    go_wp2_with fail
    refine (short8_is 200 S1.out HM.out (by omega)).mono ?_
    rintro e w2 ⟨u, rfl, hu, rfl⟩
    obtain ⟨au, cu, rfl⟩ : ∃ au cu, u = .slice au m.length cu := by
      obtain ⟨_, a, c, hv, _⟩ := hu
      exact ⟨a, c, hv⟩
    have SU := Lib.hid hu
    clear hu
    go_wp2_with (first | (refine wpList_make_row rfl _ _ rfl Tryd.underlying22 hi0 hz0 hz1 hz2 q rfl rfl rfl rfl (by omega) (by unfold maxLen; omega) ?_; intro w4 r4 k4 l4; rw [show (Value.int .u8 0).cells = #[.int .u8 0] from rfl, toList_madeCells_one] at r4; have R4 := Lib.hid r4; have K4 := Lib.hid k4; clear r4 k4))
    have G4 : Hid (FillC w4 w1.heap.size q (.int .i64 0) w4) := Lib.hid ⟨0, List.replicate q 0, by omega, rfl, by simp, by have h9 := R4.out; rw [Nat.mul_one] at h9; simpa [bcells] using h9, Keep.refl _ w4⟩
    have HSU := SU
    have HMM2 := HML
    go_loopw [7] (fun i wr => FillC w4 w1.heap.size q i wr) (fun i _ => q - (intOf i).toNat)
    case atStart => exact G4.out
    case round =>
      obtain ⟨k, X, hk, rfl, hX, hRX, hKX⟩ := hrel.ex
      clear hrel
      have HRXr := Lib.hid hRX
      have HKX := Lib.hid hKX
      have HXL := Lib.hid hX
      have KW := Lib.hid ((K1.out.trans K4.out (fun _ h => h.elim)).trans hKX (fun x e => .inr (by have := K1.out.size; omega)))
      obtain ⟨mm, hmm⟩ : ∃ mm, mm = m.length := ⟨_, rfl⟩
      rw [← hmm] at SU ⊢
      have HMMM := Lib.hid hmm
      by_cases hlt : k < q ∧ 0 < mm
      · obtain ⟨h1, h2⟩ := hlt
        obtain ⟨r, hr⟩ : ∃ r, r = k % mm := ⟨_, rfl⟩
        have hrl : r < mm := by rw [hr]; exact Nat.mod_lt _ h2
        have er : (k : Int) % (mm : Int) = (r : Int) := by omega
        have h20 : (0 : Int) < (mm : Int) := by omega
        have hrm : r < m.length := by omega
        obtain ⟨gm, om, rfl, hgm, cr⟩ : ∃ gm om, au = some ⟨gm, om, none⟩ ∧ gm < w1.heap.size ∧ w1.cell? ⟨gm, om + r, none⟩ = some (.int .u8 ((m[r].toNat : Nat) : Int)) := by
          obtain ⟨_, a', c', hv, _, _, h4⟩ := SU.out
          simp only [Value.slice.injEq] at hv
          obtain ⟨rfl, -, -⟩ := hv
          rcases h4 with h4 | ⟨g, off, hg, hgl, hc⟩
          · omega
          · exact ⟨g, off, hg, hgl, hc r _ (by simp [bcells, List.getElem?_eq_getElem hrm])⟩
        have cr2 : wr.cell? ⟨gm, om + r, none⟩ = some (.int .u8 ((m[r].toNat : Nat) : Int)) := by
          rw [hKX.cell (by have := K4.out.size; omega) (by omega), K4.out.cell hgm (fun h => h)]; exact cr
        obtain ⟨hc2, f2⟩ := hRX.there k (by omega)
        rw [Nat.zero_add] at hc2 f2
        obtain ⟨v2, c2⟩ := Option.isSome_iff_exists.1 hc2
        have hmod0 : ¬ (mm : Int) = 0 := by omega
        have hc200 : mm ≤ 200 := by have := HML.out; omega
        generalize m[r] = cc at *
        clear hc2 hRX hKX hX hmm cr hr hrm
        go_wp2
        go_roundw
        case rel =>
          (repeat apply Exists.intro)
          exact FillC.step h1 HXL.out HRXr.out HKX.out cc
        case measure => simp [intOf]; omega
      · have hd : ¬ k < q ∨ (k < q ∧ mm = 0) := by omega
        have KS := KW
        have SU := Lib.hid (show Seen wr 1 (.slice (some ⟨w1.heap.size, 0, none⟩) q q) X.length (bcells X) from by rw [hX]; exact hRX.seen)
        have HML : Hid (X.length ≤ 200) := Lib.hid (by omega)
        clear hRX hKX hX hlt
        rcases hd with hd | ⟨hd, hd2⟩
        all_goals
          go_wp2_with fail
          obtain ⟨D, hD⟩ : ∃ D, D = sumOf X := ⟨_, rfl⟩
          have hDl : D.length = 32 := by rw [hD]; rfl
          have hDs : (bC D).size = 32 := by rw [bC_size, hDl]
          have HSM := Lib.hid (sum_any (HR.out.keep KS.out (fun h => h)) SU.out (by have := HML.out; omega))
          rw [← hD] at HSM
          have HD := Lib.hid hD
          clear hD
          refine HSM.out.mono ?_
          rintro e wa ⟨rfl, ka⟩
          have KA := Lib.hid (KS.out.trans ka (fun _ h => h.elim))
          have SA := Lib.hid (SU.out.keep ka (fun _ _ _ h => h))
          clear ka
          have KB := Lib.hid (KA.out.alloc (.cells (bC D) 25))
          have SB := Lib.hid (SA.out.keep ((Keep.refl (fun _ => False) wa).alloc (.cells (bC D) 25)) (fun _ _ _ h => h))
          have CB : Hid (BAt (wa.alloc (.cells (bC D) 25)) 25 wa.heap.size D) := Lib.hid (heap_alloc_new wa _)
          go_wp2_with (first | (refine wpList_var_arr HZ (by rw [hDs]; exact Tryd.info32b) (by rw [hDs, hZ]) (bC_one _) rfl rfl rfl _ _ rfl rfl rfl ?_))
          generalize wa.alloc (.cells (bC D) 25) = wb at *
          obtain ⟨B8, hB8⟩ : ∃ B8, B8 = wa.heap.size := ⟨_, rfl⟩
          rw [← hB8] at CB ⊢
          clear hB8
          have HCV := Lib.hid (fun (w9 : World) (g : Nat) (hb : BAt w9 25 g D) => (run_string_of_bytes (fun j hj => by rw [Nat.zero_add]; exact hb.cell j hj) _ _ _ 32 32 hDl Tryd.underlying22 Tryd.underlying5 Tryd.underlying9 : (convert 22 9 (.slice (some ⟨g, 0, none⟩) 32 32)).run Tryd.prog w9 = .ok (.string ⟨D.toArray⟩) w9))
          have cv0 := HCV.out wb B8 CB.out
          have cv1 := HCV.out wb.drew B8 CB.out
          have hsl := slArr
          have HH := Lib.hid (fun (w9 : World) (k9 : Keep (fun _ => False) wb w9) => hash_any (SB.out.keep k9 (fun _ _ _ h => h)) (by have := HML.out; omega))
          have HX := Lib.hid (fun (w9 : World) (k9 : Keep (fun _ => False) wb w9) => hex_any (HR.out.keep (KB.out.trans k9 (fun _ h => h.elim)) (fun h => h)) (SB.out.keep k9 (fun _ _ _ h => h)) (by have := HML.out; omega))
          have HRX := Lib.hid (fun (w9 : World) (k9 : Keep (fun _ => False) wb w9) => rhex_any (SB.out.keep k9 (fun _ _ _ h => h)) (by have := HML.out; omega))
          rw [← HD.out] at HH HX HRX
          obtain ⟨T, hT⟩ : ∃ T, T = hexOf D := ⟨_, rfl⟩
          rw [← hT] at HX HRX
          clear hT
          go_region_with (first
            | (go_at_call 8; (with_reducible refine (HH.out _ ((Keep.refl (fun _ => False) wb).drew)).mono ?_); rintro e w5 ⟨g5, rfl, h5, k5⟩; have k6 : Keep (fun _ => False) wb w5 := ((Keep.refl (fun _ => False) wb).drew).trans k5 (fun _ h => h.elim); have K5 := Lib.hid k6; have cv5 := HCV.out w5 B8 (CB.out.keep k6 (fun h => h)); have cvh := HCV.out w5 g5 h5; clear k5 k6 h5)
            | (go_at_call 9; (with_reducible refine (HX.out _ K5.out).mono ?_); rintro e w6 ⟨rfl, k6⟩; have K6 := Lib.hid (K5.out.trans k6 (fun _ h => h.elim)); clear k6)
            | (go_at_call 10; (with_reducible refine (HRX.out _ K6.out).mono ?_); rintro e w7 ⟨rfl, k7⟩; have K7 := Lib.hid (K6.out.trans k7 (fun _ h => h.elim)); clear k7))
          all_goals
            have KF := Lib.hid (KB.out.trans K7.out (fun _ h => h.elim))
            go_simp
            go_wp2
            go_ret
            exact ⟨rfl, by first | exact KF.out | exact KF.out.drew⟩

end Go.Proofs.YtebijkpojlngpaaDoor.Sha
