/- FileHoles answers true, for every input: one byte far out takes its block and the indirect ones that lead there. -/
import Derived.Test.YtcfllloilfahnaaTrunc
namespace Go.Proofs.Ytcfllloilfahnaa.Ino
open Go.RowKit Go.Maps Go.Proofs.Ytcfllloilfahnaa
set_option maxRecDepth 100000

attribute [-go_sem] Go.run_min_int2

structure HolR (w4 : World) (at_ : Nat) (iv : Value) (wr : World) : Prop where
  ex : ∃ i : Nat, i < at_ + 3000 ∧ iv = .int .i64 (i : Int) ∧ Keep (fun _ => False) w4 wr

structure HolI (w8 : World) (m : Nat) (kv : Value) (wr : World) : Prop where
  ex : ∃ k : Nat, k ≤ m ∧ kv = .int .i64 (k : Int) ∧ wr = w8

/-- Is a store without fault? -/
theorem sto_bad {w : World} {F : Nat → Prop} {p s : Nat} {S : Sto} {size : Nat} {T : List Nat} (h : Fl w F p s S size T) : w.cell? ⟨s, 3, none⟩ = some (.bool false) := by
  obtain ⟨b, D, hs⟩ := h.file.sto
  exact (hs.cell 3).trans rfl

set_option maxHeartbeats 4000000 in
theorem fileHoles_in {w : World} (q off : Nat) (hq : q < 200) (ho : off < 512) : Calls Try.prog 3 #[.int .i64 (q : Int), .int .i64 (off : Int)] w fun e w' => e = .returned (.bool true) ∧ Keep (fun _ => False) w w' := by
  have hmm := @run_makeMap Try.prog
  have d1 : decide ((q : Int) < 0) = false := by rw [decide_eq_false_iff_not]; omega
  have d2 : decide (200 ≤ (q : Int)) = false := by rw [decide_eq_false_iff_not]; omega
  have d3 : decide ((off : Int) < 0) = false := by rw [decide_eq_false_iff_not]; omega
  have d4 : decide (512 ≤ (off : Int)) = false := by rw [decide_eq_false_iff_not]; omega
  obtain ⟨at_, hat⟩ : ∃ at_, at_ = q * 512 + off := ⟨_, rfl⟩
  have hati : (q : Int) * 512 + (off : Int) = (at_ : Int) := by omega
  have hwt : (q < 8 ∧ want1 q = 1) ∨ (8 ≤ q ∧ q < 136 ∧ want1 q = 2) ∨ (136 ≤ q ∧ want1 q = 3) := by unfold want1; split <;> (try split) <;> omega
  have HAT := Lib.hid hat
  clear hat
  go_enter Try.func3, Try.ntmps3
  go_wp2_with (go_at_call 6; refine begun5_any.mono ?_; rintro e w1 ⟨rfl, k1⟩; have K1 := Lib.hid k1; clear k1)
  have HS := Lib.hid (fresh_sto w1 10 10 rfl (by omega))
  have K2 : Hid (Keep (fun _ => False) w1 ((w1.alloc (.map #[] 0)).alloc (.cells #[.map (some w1.heap.size), .int .i64 10, .int .i64 0, .bool false] 26))) := Lib.hid (((Keep.refl _ w1).alloc _).alloc _)
  refine (fl_new HS.out rfl).mono ?_
  have S2 : Hid (((w1.alloc (.map #[] 0)).alloc (.cells #[.map (some w1.heap.size), .int .i64 10, .int .i64 0, .bool false] 26)).heap.size = w1.heap.size + 2) := Lib.hid (by simp)
  generalize (w1.alloc (.map #[] 0)).alloc (.cells #[.map (some w1.heap.size), .int .i64 10, .int .i64 0, .bool false] 26) = w2 at *
  rintro e w3 ⟨rfl, h3, k3⟩
  have H3 := Lib.hid h3; have K3 := Lib.hid k3
  clear h3 k3 HS hmm
  go_wp2_with fail
  refine (fl_first (b := [7]) (H3.out.keep0 ((Keep.refl _ w3).alloc _)) at_ q (seen_lit #[.int .u8 7] _ 1 1 rfl rfl (by omega) (by simp [maxLen])) (by simp) hq (by have := HAT.out; omega) (by have := HAT.out; simp only [List.length_singleton]; omega) (by omega)).mono ?_
  rintro e w4 ⟨rfl, F4, S4, T4, h4, _, hc4, _, hb4, ht4, hf4, k4, hF4⟩
  have HB : Hid (∀ i, i ≤ at_ → fileB S4 T4 i = if i = at_ then 7 else 0) := Lib.hid (fun i hi => by
    rw [hf4 i (by have := HAT.out; omega)]
    by_cases e : i = at_
    · subst e; rw [if_pos (by simp), if_pos rfl, Nat.sub_self]; rfl
    · rw [if_neg (by omega), if_neg e])
  have H4 := Lib.hid h4; have HC4 := Lib.hid hc4; have HB4 := Lib.hid hb4; have HT4 := Lib.hid ht4
  have HK4 : Hid (Keep (fun _ => False) w w4) := Lib.hid ((((K1.out.trans K2.out (fun _ h => h.elim)).trans K3.out (fun _ h => h.elim)).alloc _).trans k4 (fun x hx => .inr (by have := K1.out.size; have := S2.out; omega)))
  have HF4 : Hid (∀ x, (F4 x ∨ x = w2.heap.size) → w.heap.size ≤ x) := Lib.hid (fun x hx => by
    have := K1.out.size; have := S2.out; have := K3.out.size
    rcases hx with hx | hx
    · have := hF4 x hx
      simp at this
      omega
    · omega)
  have hatl : at_ < 102400 := by have := HAT.out; omega
  have hoff : (off = 0 ∧ at_ % 512 = 0) ∨ (0 < off ∧ at_ % 512 ≠ 0) := by have := HAT.out; omega
  have HQ : Hid (at_ / 512 = q) := Lib.hid (by have := HAT.out; omega)
  clear h4 hc4 hb4 ht4 hf4 k4 hF4 HAT H3 K1 K2 K3 S2
  have hq8 : (decide (8 ≤ (q : Int)) = false ∧ decide (136 ≤ (q : Int)) = false ∧ want1 q = 1) ∨ (decide (8 ≤ (q : Int)) = true ∧ decide (136 ≤ (q : Int)) = false ∧ want1 q = 2) ∨ (decide (8 ≤ (q : Int)) = true ∧ decide (136 ≤ (q : Int)) = true ∧ want1 q = 3) := by
    simp only [decide_eq_true_eq, decide_eq_false_iff_not]
    omega
  clear hwt
  rcases hq8 with ⟨d5, d6, hw⟩ | ⟨d5, d6, hw⟩ | ⟨d5, d6, hw⟩
  all_goals
    rw [hw] at HC4 HB4
    go_wp2_with fail
    go_loopw [10] (fun iv wr => HolR w4 at_ iv wr) (fun iv _ => at_ + 3000 - (intOf iv).toNat)
    case atStart => exact ⟨0, by omega, rfl, Keep.refl _ w4⟩
    case round =>
      obtain ⟨i, hi, rfl, hK⟩ := hrel.ex
      have HK := Lib.hid hK
      have HF := Lib.hid (H4.out.keep0 hK)
      clear hK
      by_cases hlt : i < at_
      · have hd : decide (i < at_) = true := by rw [decide_eq_true_eq]; omega
        obtain ⟨m, hm⟩ : ∃ m, min 3000 (at_ + [7].length - i) = m := ⟨_, rfl⟩
        have hm2 : 0 < m ∧ m ≤ 3000 ∧ i + m ≤ at_ + 1 := by simp only [List.length_singleton] at hm; omega
        have hmin := min_any (P := Try.prog) 3000 ((at_ : Int) + 1 - (i : Int)) (m : Int) (by simp only [List.length_singleton] at hm; omega)
        have hne : ((m : Int) != (m : Int)) = false := by simp
        have HRD := Lib.hid (fl_read HF.out i 3000 m hm)
        clear hm
        go_wp2_with (go_at_call 9; refine HRD.out.mono ?_; rintro e w8 ⟨v8, rfl, h8, k8⟩; have K8 := Lib.hid k8; obtain ⟨g8, o8, c8, rfl, _, _⟩ := h8.full hm2.1; have H8 := Lib.hid h8; clear h8 k8)
        obtain ⟨wz, hwz⟩ : ∃ wz, wz = wr := ⟨wr, rfl⟩
        subst wr
        go_loopw [13] (fun kv wr => HolI w8 m kv wr) (fun kv _ => m - (intOf kv).toNat)
        case atStart => exact ⟨0, by omega, rfl, rfl⟩
        case round =>
          obtain ⟨k, hk, rfl, rfl⟩ := hrel.ex
          by_cases hkm : k < m
          · have hdk : decide (k < m) = true := by rw [decide_eq_true_eq]; omega
            have hc := H8.out.cellAt k (by omega)
            have hv := HB.out (i + k) (by omega)
            by_cases hik : i + k = at_
            · rw [if_pos hik] at hv
              have hc2 : wr.cell? ⟨g8, o8 + k, none⟩ = some (.int .u8 7) := by
                rw [hc]; simp [bcells, fileL, hkm, hv]
              have hs : (i : Int) + (k : Int) = (at_ : Int) := by omega
              clear hc
              go_wp2
              go_roundw
              case rel => exact ⟨k + 1, by omega, by go_num, rfl⟩
              case measure => simp [intOf]; omega
            · rw [if_neg hik] at hv
              have hc2 : wr.cell? ⟨g8, o8 + k, none⟩ = some (.int .u8 0) := by
                rw [hc]; simp [bcells, fileL, hkm, hv]
              clear hc
              go_wp2
              go_roundw
              case rel => exact ⟨k + 1, by omega, by go_num, rfl⟩
              case measure => simp [intOf]; omega
          · have hdk : decide ((k : Int) < (m : Int)) = false := by rw [decide_eq_false_iff_not]; omega
            obtain rfl : k = m := by omega
            have hdk2 : ¬ (k : Int) < (k : Int) := by omega
            clear hrel
            go_wp2
            go_roundw
            case rel => exact ⟨i + 3000, by omega, by go_num, HK.out.trans K8.out (fun _ h => h.elim)⟩
            case measure => simp [intOf]; omega
      · have hd : decide (i < at_) = false := by rw [decide_eq_false_iff_not]; omega
        have hone := (grow_one 0 q hq).1
        rw [← HT4.out] at hone
        have hcut := cut_one hq HQ.out HF.out.ok.len hone
        have HTD := Lib.hid (trunc_down HF.out at_ (by simp))
        have hHK : Keep (fun _ => False) w wr := HK4.out.trans HK.out (fun _ h => h.elim)
        have HHK := Lib.hid hHK
        rw [hw] at hcut
        have HBK : Hid (Calls Try.prog 10 #[.pointer (some ⟨w2.heap.size, 0, none⟩)] wr fun e w' => e = .returned (.int .i64 ((want1 q : Nat) : Int)) ∧ wr = w') := Lib.hid (by
          have h := blocks_any HF.out.file
          rw [HB4.out, ← hw] at h
          exact h)
        rw [hw] at HBK
        clear hone hHK hlt hrel
        rcases hoff with ⟨ho1, ho2⟩ | ⟨ho1, ho2⟩
        · rw [if_pos ho2] at hcut
          subst ho1
          go_wp2_with (first | (go_at_call 10; refine HBK.out.mono ?_; rintro e w9 ⟨rfl, rfl⟩) | (go_at_call 11; refine HTD.out.mono ?_; rintro e w9 ⟨rfl, F9, S9, h9, _, _, _, k9, f9⟩; have H9 := Lib.hid h9; have HKE := Lib.hid (HHK.out.trans k9 (fun x hx => .inr (HF4.out x hx))); obtain ⟨b9, c9, hl9⟩ := sto_len h9; have e9 := sto_bad h9; rw [h9.ok.count, hcut] at hl9; have HB9 := Lib.hid (blocks_any h9.file); rw [hcut] at HB9; clear h9 k9 f9) | (go_at_call 10; refine HB9.out.mono ?_; rintro e w10 ⟨rfl, rfl⟩))
          all_goals go_ret
          all_goals exact ⟨rfl, HKE.out⟩
        · rw [if_neg ho2] at hcut
          have d7 : decide (0 < (off : Int)) = true := by rw [decide_eq_true_eq]; omega
          go_wp2_with (first | (go_at_call 10; refine HBK.out.mono ?_; rintro e w9 ⟨rfl, rfl⟩) | (go_at_call 11; refine HTD.out.mono ?_; rintro e w9 ⟨rfl, F9, S9, h9, _, _, _, k9, f9⟩; have H9 := Lib.hid h9; have HKE := Lib.hid (HHK.out.trans k9 (fun x hx => .inr (HF4.out x hx))); obtain ⟨b9, c9, hl9⟩ := sto_len h9; have e9 := sto_bad h9; rw [h9.ok.count, hcut] at hl9; have HB9 := Lib.hid (blocks_any h9.file); rw [hcut] at HB9; clear h9 k9 f9) | (go_at_call 10; refine HB9.out.mono ?_; rintro e w10 ⟨rfl, rfl⟩))
          all_goals go_ret
          all_goals exact ⟨rfl, HKE.out⟩

theorem fileHoles_any {w : World} (q off : Int) : Calls Try.prog 3 #[.int .i64 q, .int .i64 off] w fun e w' => e = .returned (.bool true) ∧ Keep (fun _ => False) w w' := by
  by_cases h : 0 ≤ q ∧ q < 200 ∧ 0 ≤ off ∧ off < 512
  · obtain ⟨a1, a2, a3, a4⟩ := h
    have := fileHoles_in (w := w) q.toNat off.toNat (by omega) (by omega)
    rw [Int.toNat_of_nonneg a1, Int.toNat_of_nonneg a3] at this
    exact this
  · go_enter Try.func3, Try.ntmps3
    go_wp2_with (go_at_call 6; refine begun5_any.mono ?_; rintro e w1 ⟨rfl, k1⟩; have K1 := Lib.hid k1; clear k1)
    all_goals first | (exfalso; omega) | (go_ret; exact ⟨rfl, K1.out⟩)

end Go.Proofs.Ytcfllloilfahnaa.Ino
