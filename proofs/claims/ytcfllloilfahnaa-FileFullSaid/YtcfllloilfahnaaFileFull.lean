/- FileFull answers true, for every input: a write for which blocks lack changes nothing. -/
import Derived.Test.YtcfllloilfahnaaFull5
namespace Go.Proofs.Ytcfllloilfahnaa.Ino
open Go.RowKit Go.Maps Go.Proofs.Ytcfllloilfahnaa
set_option maxRecDepth 100000

set_option maxHeartbeats 2000000 in
theorem fileFull_in {w : World} (most first at_ n : Nat) (h1 : most ≤ 40) (h2 : first ≤ 4000) (h3 : at_ ≤ 90000) (h4 : n ≤ 4000) : Calls Try.prog 4 #[.int .i64 (most : Int), .int .i64 (first : Int), .int .i64 (at_ : Int), .int .i64 (n : Int)] w fun e w' => e = .returned (.bool true) ∧ Keep (fun _ => False) w w' := by
  have hmm := @run_makeMap Try.prog
  have d1 : decide ((most : Int) < 0) = false := by rw [decide_eq_false_iff_not]; omega
  have d2 : decide (40 < (most : Int)) = false := by rw [decide_eq_false_iff_not]; omega
  have d3 : decide ((first : Int) < 0) = false := by rw [decide_eq_false_iff_not]; omega
  have d4 : decide (4000 < (first : Int)) = false := by rw [decide_eq_false_iff_not]; omega
  have d5 : decide ((at_ : Int) < 0) = false := by rw [decide_eq_false_iff_not]; omega
  have d6 : decide (90000 < (at_ : Int)) = false := by rw [decide_eq_false_iff_not]; omega
  have d7 : decide ((n : Int) < 0) = false := by rw [decide_eq_false_iff_not]; omega
  have d8 : decide (4000 < (n : Int)) = false := by rw [decide_eq_false_iff_not]; omega
  obtain ⟨i0, hi0, hz0, hz1, hz2⟩ := info_parts Try.infoB
  go_enter Try.func4, Try.ntmps4
  go_wp2_with (go_at_call 6; refine begun5_any.mono ?_; rintro e w1 ⟨rfl, k1⟩; have K1 := Lib.hid k1; clear k1)
  have HS := Lib.hid (fresh_sto w1 most _ rfl (by omega))
  have K2 : Hid (Keep (fun _ => False) w1 ((w1.alloc (.map #[] 0)).alloc (.cells #[.map (some w1.heap.size), .int .i64 (most : Int), .int .i64 0, .bool false] 26))) := Lib.hid (((Keep.refl _ w1).alloc _).alloc _)
  refine (fl_new HS.out rfl).mono ?_
  have S2 : Hid (((w1.alloc (.map #[] 0)).alloc (.cells #[.map (some w1.heap.size), .int .i64 (most : Int), .int .i64 0, .bool false] 26)).heap.size = w1.heap.size + 2) := Lib.hid (by simp)
  generalize (w1.alloc (.map #[] 0)).alloc (.cells #[.map (some w1.heap.size), .int .i64 (most : Int), .int .i64 0, .bool false] 26) = w2 at *
  rintro e w3 ⟨rfl, h3, k3⟩
  have H3 := Lib.hid h3; have K3 := Lib.hid k3
  have HZ := Lib.hid hi0
  clear h3 k3 HS hi0
  go_wp2_with (first | (refine wpList_make_row rfl _ _ rfl Try.underlying32 HZ.out hz0 hz1 hz2 first rfl rfl rfl rfl (by omega) (by unfold maxLen; omega) ?_; intro w4 h4 k4 s4; have R4 := Lib.hid h4; have K4 := Lib.hid k4; have S4 := Lib.hid s4; clear h4 k4 s4))
  have R0 : Hid (FillR w4 (.slice (some ⟨w3.heap.size, 0, none⟩) first first) w3.heap.size first 98 (.int .i64 0) w4) := Lib.hid ⟨0, by omega, rfl, by
    have h := R4.out
    rw [show (Value.int .u8 0).cells = #[.int .u8 0] from rfl, toList_madeCells_one] at h
    simpa [bcells] using h, Keep.refl _ w4⟩
  clear R4 hmm
  go_loopw [13] (fun iv wr => FillR w4 (.slice (some ⟨w3.heap.size, 0, none⟩) first first) w3.heap.size first 98 iv wr) (fun iv _ => first - (intOf iv).toNat)
  case atStart => exact R0.out
  case round =>
    obtain ⟨k, hk, rfl, hR, hK⟩ := hrel.ex
    have HR := Lib.hid hR; have HK := Lib.hid hK
    clear hR hK R0
    by_cases hlt : k < first
    · have hd : decide ((k : Int) < (first : Int)) = true := by rw [decide_eq_true_eq]; omega
      obtain ⟨ht, hfz⟩ := HR.out.there k (by omega)
      rw [Nat.zero_add] at ht hfz
      obtain ⟨c0, hc0⟩ := Option.isSome_iff_exists.1 ht
      have HST := Lib.hid (FillR.step hlt HR.out HK.out 98 rfl)
      clear ht
      generalize w3.heap.size = g at *
      go_wp2
      go_roundw
      case rel => exact HST.out
      case measure => simp [intOf]; omega
    · obtain rfl : k = first := by omega
      clear hlt hrel
      have hd : ¬ (k : Int) < (k : Int) := by omega
      have HR1 := HR.out
      rw [Nat.sub_self, List.replicate_zero, List.append_nil] at HR1
      have HKw : Hid (Keep (fun _ => False) w3 wr) := Lib.hid (K4.out.trans HK.out (fun x hx => .inr (by omega)))
      have HT1 := Lib.hid (fl_try (H3.out.keep0 HKw.out) (by simp [Sto.made]) 0 (b := List.replicate k 98) (n := k) (by simp) HR1.seen (by omega) (by omega))
      have hg1 : w1.heap.size + 1 < w2.heap.size := by have := S2.out; omega
      have HKW : Hid (Keep (fun _ => False) w wr) := Lib.hid (((K1.out.trans K2.out (fun _ h => h.elim)).trans K3.out (fun _ h => h.elim)).trans HKw.out (fun _ h => h.elim))
      have HLO : Hid (w.heap.size ≤ w1.heap.size ∧ w2.heap.size < w3.heap.size ∧ w3.heap.size ≤ wr.heap.size) := Lib.hid ⟨K1.out.size, lt_of_block H3.out.file.head, HKw.out.size⟩
      have HRB := Lib.hid HR1
      clear HR1 HR hk
      go_wp2_with fail
      refine HT1.out.mono ?_
      rintro e w5 (⟨rfl, F5, S5, T5, h5, hm5, hn5, hf5, k5, hF5⟩ | ⟨r, nx, F5, rfl, hn5, hn5', h5, k5, hF5, _⟩)
      rotate_left
      · have H5 := Lib.hid h5
        have K5 := Lib.hid k5
        clear h5 k5 hF5
        obtain ⟨b5, c0, hlen⟩ := sto_len H5.out
        have hll : ∀ ty, (Builtin.len_ #[24] ty #[.map (some b5)]).run Try.prog w5 = .ok (.int .i64 0) w5 := hlen
        clear hlen
        go_wp2_with (go_at_call 12; refine (size_any H5.out.file).mono ?_; rintro e w6 ⟨rfl, rfl⟩)
        go_ret
        exact ⟨rfl, HKW.out.trans K5.out (fun x hx => .inr (by have := HLO.out; omega))⟩
      · have e5 : (if k = 0 then 0 else max 0 (0 + k)) = k := by split <;> omega
        rw [e5] at h5
        have hB5 : fileL S5 T5 0 k = List.replicate k 98 := List.eq_replicate_iff.2 ⟨fileL_length _ _ _ _, fun x hx => by
          obtain ⟨i, hi, rfl⟩ := List.mem_map.1 hx
          rw [List.mem_range] at hi
          rw [hf5 (0 + i) (by omega), if_pos (by omega), List.getD_eq_getElem?_getD, List.getElem?_replicate, if_pos (by omega)]
          rfl⟩
        have H5 := Lib.hid h5; have HB5 := Lib.hid hB5
        have HN5 : Hid (S5.nxt ≤ 203) := Lib.hid (by simp only [Sto.made] at hn5; omega)
        have HKW5 : Hid (Keep (fun _ => False) w w5) := Lib.hid (HKW.out.trans k5 (fun x hx => .inr (by have := HLO.out; omega)))
        have HF5 : Hid (∀ x, (F5 x ∨ x = w2.heap.size) → w.heap.size ≤ x) := Lib.hid (fun x hx => by
          have := HLO.out
          rcases hx with hx | hx
          · have := hF5 x hx; omega
          · omega)
        have HRB5 : Hid (Row w5 5 1 (.slice (some ⟨w3.heap.size, 0, none⟩) k k) k (bcells (List.replicate k 98))) := Lib.hid (HRB.out.keep k5 (fun x hx e => by
          have := HLO.out
          simp [Value.ownBlock] at hx
          omega))
        have HFP5 : Hid (¬ F5 w3.heap.size ∧ w2.heap.size ≠ w3.heap.size ∧ w3.heap.size < w5.heap.size) := Lib.hid ⟨fun hx => by
          have := HLO.out
          rcases hF5 _ hx with h | h
          · omega
          · have := HRB.out.lt (k := w3.heap.size) rfl; omega, by have := HLO.out; omega, HRB5.out.lt rfl⟩
        clear h5 hB5 hm5 hn5 hf5 k5 hF5 e5 HT1 HKW HKw HK K4 H3 K3 K1 K2 HRB
        go_wp2_with (first | (go_at_call 10; refine (blocks_any H5.out.file).mono ?_; rintro e w6 ⟨rfl, rfl⟩) | (go_at_call 12; refine (size_any H5.out.file).mono ?_; rintro e w6 ⟨rfl, rfl⟩) | (refine wpList_make_row rfl _ _ rfl Try.underlying32 HZ.out hz0 hz1 hz2 n rfl rfl rfl rfl (by omega) (by unfold maxLen; omega) ?_; intro w6 h6 k6 s6; have R6 := Lib.hid h6; have K6 := Lib.hid k6; have S6 := Lib.hid s6; clear h6 k6 s6))
        have R0 : Hid (FillR w6 (.slice (some ⟨w5.heap.size, 0, none⟩) n n) w5.heap.size n 99 (.int .i64 0) w6) := Lib.hid ⟨0, by omega, rfl, by
          have h := R6.out
          rw [show (Value.int .u8 0).cells = #[.int .u8 0] from rfl, toList_madeCells_one] at h
          simpa [bcells] using h, Keep.refl _ w6⟩
        clear R6
        obtain ⟨wz, hwz⟩ : ∃ wz, wz = wr := ⟨wr, rfl⟩
        subst wr
        go_loopw [17] (fun iv wr => FillR w6 (.slice (some ⟨w5.heap.size, 0, none⟩) n n) w5.heap.size n 99 iv wr) (fun iv _ => n - (intOf iv).toNat)
        case atStart => exact R0.out
        case round =>
          obtain ⟨j, hj, rfl, hR, hK⟩ := hrel.ex
          have HR := Lib.hid hR; have HK := Lib.hid hK
          clear hR hK R0
          by_cases hlt : j < n
          · have hd : decide ((j : Int) < (n : Int)) = true := by rw [decide_eq_true_eq]; omega
            obtain ⟨ht, hfz⟩ := HR.out.there j (by omega)
            rw [Nat.zero_add] at ht hfz
            obtain ⟨c0, hc0⟩ := Option.isSome_iff_exists.1 ht
            have HST := Lib.hid (FillR.step hlt HR.out HK.out 99 rfl)
            clear ht
            generalize w5.heap.size = g at *
            go_wp2
            go_roundw
            case rel => exact HST.out
            case measure => simp [intOf]; omega
          · obtain rfl : j = n := by omega
            clear hlt hrel
            have hd : ¬ (j : Int) < (j : Int) := by omega
            have HR1 := HR.out
            rw [Nat.sub_self, List.replicate_zero, List.append_nil] at HR1
            have HKw : Hid (Keep (fun _ => False) w5 wr) := Lib.hid (K6.out.trans HK.out (fun x hx => .inr (by omega)))
            have HKW : Hid (Keep (fun _ => False) w wr) := Lib.hid (HKW5.out.trans HKw.out (fun _ h => h.elim))
            have HT1 := Lib.hid (fl_try (H5.out.keep0 HKw.out) (by have := HN5.out; omega) at_ (b := List.replicate j 99) (n := j) (by simp) HR1.seen (by omega) (by omega))
            have HRC := Lib.hid HR1
            clear HR1 HR hj
            go_wp2_with fail
            refine HT1.out.mono ?_
            rintro e w8 (⟨rfl, F8, S8, T8, h8, hm8, hn8, hf8, k8, hF8⟩ | ⟨r, nx, F8, rfl, hn8, hn8', h8, k8, hF8, _⟩)
            · have hB8 : fileL S8 T8 at_ j = List.replicate j 99 := List.eq_replicate_iff.2 ⟨fileL_length _ _ _ _, fun x hx => by
                obtain ⟨i, hi, rfl⟩ := List.mem_map.1 hx
                rw [List.mem_range] at hi
                rw [hf8 (at_ + i) (by omega), if_pos (by omega), List.getD_eq_getElem?_getD, List.getElem?_replicate, if_pos (by omega)]
                rfl⟩
              have H8 := Lib.hid h8; have HB8 := Lib.hid hB8
              have HRC8 : Hid (Row w8 5 1 (.slice (some ⟨w5.heap.size, 0, none⟩) j j) j (bcells (List.replicate j 99))) := Lib.hid (HRC.out.keep k8 (fun x hx e => by
                simp [Value.ownBlock] at hx
                subst hx
                rcases e with e | e
                · have := H5.out.file.lt.1 _ e; omega
                · have := HFP5.out; have := HLO.out; omega))
              have HK8 : Hid (Keep (fun _ => False) w w8) := Lib.hid (HKW.out.trans k8 (fun x hx => .inr (HF5.out x hx)))
              have hmin : min j ((if j = 0 then k else max k (at_ + j)) - at_) = j := by split <;> omega
              have HRD := Lib.hid (fl_read H8.out at_ j j hmin)
              clear h8 hB8 hm8 hn8 hf8 k8 hF8 HT1 HRC HRB5
              go_wp2_with (go_at_call 9; refine HRD.out.mono ?_; rintro e w9 ⟨v9, rfl, h9, k9⟩; rw [HB8.out] at h9; have H9 := Lib.hid h9; have K9 := Lib.hid k9; have q1 := str_row h9 (by simp); have q2 := str_row (HRC8.out.keep k9 (fun _ _ h => h)) (by simp); have HF9 := Lib.hid (H8.out.keep0 k9); obtain ⟨b9, c9, hl9⟩ := sto_len HF9.out; rw [HF9.out.ok.count] at hl9; have HKE := Lib.hid (HK8.out.trans k9 (fun _ h => h.elim)); clear h9 k9)
              go_wp2_with (go_at_call 10; refine (blocks_any HF9.out.file).mono ?_; rintro e w10 ⟨rfl, rfl⟩)
              go_ret
              exact ⟨rfl, HKE.out⟩
            · have H8 := Lib.hid h8
              have HB8 : Hid (fileL { S5 with nxt := nx } T5 0 k = List.replicate k 98) := Lib.hid HB5.out
              have HRC8 : Hid (Row w8 5 1 (.slice (some ⟨w3.heap.size, 0, none⟩) k k) k (bcells (List.replicate k 98))) := Lib.hid ((HRB5.out.keep HKw.out (fun _ _ h => h)).keep k8 (fun x hx e => by
                simp [Value.ownBlock] at hx
                subst hx
                rcases e with e | e
                · exact HFP5.out.1 e
                · exact HFP5.out.2.1 e.symm))
              have HK8 : Hid (Keep (fun _ => False) w w8) := Lib.hid (HKW.out.trans k8 (fun x hx => .inr (HF5.out x hx)))
              have HRD := Lib.hid (fl_read H8.out 0 k k (by omega))
              have HCN : Hid (S5.c = cntB T5 203) := Lib.hid H5.out.ok.count
              clear h8 hn8 hn8' k8 hF8 HT1 HRC HRB5
              go_wp2_with (first | (go_at_call 9; refine HRD.out.mono ?_; rintro e w9 ⟨v9, rfl, h9, k9⟩; rw [HB8.out] at h9; have H9 := Lib.hid h9; have K9 := Lib.hid k9; have q1 := str_row h9 (by simp); have q2 := str_row (HRC8.out.keep k9 (fun _ _ h => h)) (by simp); have HF9 := Lib.hid (H8.out.keep0 k9); obtain ⟨b9, c9, hl9⟩ := sto_len HF9.out; simp only [HCN.out] at hl9; have HKE := Lib.hid (HK8.out.trans k9 (fun _ h => h.elim)); clear h9 k9) | (go_at_call 10; refine (blocks_any HF9.out.file).mono ?_; rintro e w10 ⟨rfl, rfl⟩) | (go_at_call 12; refine (size_any HF9.out.file).mono ?_; rintro e w10 ⟨rfl, rfl⟩))
              go_ret
              exact ⟨rfl, HKE.out⟩

theorem fileFull_any {w : World} (most first at_ n : Int) : Calls Try.prog 4 #[.int .i64 most, .int .i64 first, .int .i64 at_, .int .i64 n] w fun e w' => e = .returned (.bool true) ∧ Keep (fun _ => False) w w' := by
  by_cases h : 0 ≤ most ∧ most ≤ 40 ∧ 0 ≤ first ∧ first ≤ 4000 ∧ 0 ≤ at_ ∧ at_ ≤ 90000 ∧ 0 ≤ n ∧ n ≤ 4000
  · obtain ⟨a1, a2, a3, a4, a5, a6, a7, a8⟩ := h
    have := fileFull_in (w := w) most.toNat first.toNat at_.toNat n.toNat (by omega) (by omega) (by omega) (by omega)
    rw [Int.toNat_of_nonneg a1, Int.toNat_of_nonneg a3, Int.toNat_of_nonneg a5, Int.toNat_of_nonneg a7] at this
    exact this
  · go_enter Try.func4, Try.ntmps4
    go_wp2_with (go_at_call 6; refine begun5_any.mono ?_; rintro e w1 ⟨rfl, k1⟩; have K1 := Lib.hid k1; clear k1)
    all_goals first | (exfalso; omega) | (go_ret; exact ⟨rfl, K1.out⟩)

end Go.Proofs.Ytcfllloilfahnaa.Ino
