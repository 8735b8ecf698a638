/- codec: lists of characters and of houses, compared. -/
import Derived.Test.YtpefkellcigpkaaCdEqS
import Derived.Test.YtpefkellcigpkaaCdEqC
namespace Go.Proofs.Ytpefkellcigpkaa.Cd
open Go.RowKit Go.Proofs.Ytpefkellcigpkaa
set_option maxRecDepth 100000

theorem Try.enSameHouse : ∀ args w, (callFunc 56 args).run Try.prog w = .ok (.enter 56 args) w := enters_of Try.func56 (by kernel_rfl) rfl

set_option maxHeartbeats 1000000 in
theorem eqHouses_any {w : World} {Pb Qb : Nat → Prop} {v1 v2 : Value} {l1 l2 : List _} (h1 : LAt eHouse Pb w v1 l1) (h2 : LAt eHouse Qb w v2 l2) : Calls Try.prog 55 #[v1, v2, .func (.func 56) #[] #[]] w (EqA l1 l2 w) := by
  have H1 := Lib.hid h1
  have H2 := Lib.hid h2
  obtain ⟨a1, c1, rfl, hb1⟩ := h1.slice
  obtain ⟨a2, c2, rfl, hb2⟩ := h2.slice
  obtain ⟨n1, hn1⟩ : ∃ n, n = l1.length := ⟨_, rfl⟩
  obtain ⟨n2, hn2⟩ : ∃ n, n = l2.length := ⟨_, rfl⟩
  rw [← hn1] at H1 hb1 ⊢
  rw [← hn2] at H2 hb2 ⊢
  have HN1 := Lib.hid hn1
  have HN2 := Lib.hid hn2
  obtain ⟨Z, HZ, hZs⟩ := zHouse
  clear h1 h2 hn1 hn2
  by_cases hne : n1 = n2
  · subst hne
    go_enter Try.func55, Try.ntmps55
    go_wp2_with fail
    go_loopw [17] (fun i wr => EqR l1 l2 w i wr) (fun i _ => n1 - (intOf i).toNat)
    case atStart => exact ⟨0, by omega, rfl, Keep.refl _ w, by simp⟩
    case round =>
      obtain ⟨k, hk, rfl, hkk, ht⟩ := hrel.ex
      clear hrel
      have HK := Lib.hid hkk
      have HT := Lib.hid ht
      rw [← HN1.out] at hk
      clear hkk ht
      by_cases hlt : k < n1
      · have hlt1 : (k : Int) < (n1 : Int) := by omega
        obtain ⟨x, hx⟩ : ∃ x, l1[k]? = some x := ⟨_, List.getElem?_eq_getElem (by have := HN1.out; omega)⟩
        obtain ⟨y, hy⟩ : ∃ y, l2[k]? = some y := ⟨_, List.getElem?_eq_getElem (by have := HN2.out; omega)⟩
        obtain ⟨g1, o1, cs1, rfl, q1, _, hH1, hr1⟩ := (H1.out.keep HK.out (fun _ _ _ h => h)).get k x hx
        obtain ⟨g2, o2, cs2, rfl, q2, _, hH2, hr2⟩ := (H2.out.keep HK.out (fun _ _ _ h => h)).get k y hy
        have HX := Lib.hid hx
        have HY := Lib.hid hy
        have HR1 := Lib.hid hr1
        have HR2 := Lib.hid hr2
        have HG1 := Lib.hid q1
        have HG2 := Lib.hid q2
        have HH1 := Lib.hid hH1
        have HH2 := Lib.hid hH2
        have len1 : cs1.length = 4 := eHouse.len hH1
        have len2 : cs2.length = 4 := eHouse.len hH2
        have hs1 : cs1.toArray.size = 4 := by rw [List.size_toArray]; exact len1
        have hs2 : cs2.toArray.size = 4 := by rw [List.size_toArray]; exact len2
        have HO1 : Hid (cs1.toArray.all (·.oneCell') = true) := Lib.hid (by rw [Array.all_eq_true_iff_forall_mem]; intro u hu; exact eHouse.one hH1 u (by simpa using hu))
        have HO2 : Hid (cs2.toArray.all (·.oneCell') = true) := Lib.hid (by rw [Array.all_eq_true_iff_forall_mem]; intro u hu; exact eHouse.one hH2 u (by simpa using hu))
        obtain ⟨C1, hC1⟩ : ∃ C, C = cs1.toArray := ⟨_, rfl⟩
        obtain ⟨C2, hC2⟩ : ∃ C, C = cs2.toArray := ⟨_, rfl⟩
        have HC1 := Lib.hid hC1
        have HC2 := Lib.hid hC2
        rw [← hC1] at HO1 hs1
        rw [← hC2] at HO2 hs2
        have HA := Lib.hid (heap_alloc_new wr (.cells Z 65))
        have HKA := Lib.hid ((Keep.refl (fun _ => False) wr).alloc (.cells Z 65))
        have HSZ : Hid ((wr.alloc (.cells Z 65)).heap.size = wr.heap.size + 1) := Lib.hid (World.size_alloc ..)
        have hen := Try.enSameHouse
        clear hH1 hH2 hr1 hr2 hx hy hC1 hC2 q1 q2
        go_wp2_with (first
          | (refine wpList_load_mid rfl 65 (.tmp 20) rfl g1 (o1 + k * 4) rfl cs1 _ HR1.out Try.underlying65 rfl (by rw [len1]; exact Try.infoHouse) ?_; rw [← HC1.out])
          | (refine wpList_var_arr HZ (by rw [hs2]; exact Try.infoHouse) (by rw [hZs, hs2]) HO2.out rfl rfl rfl (.tmp 9) (.tmp 25) rfl rfl rfl ?_)
          | (refine wpList_alloc_arr HZ rfl rfl ?_)
          | (refine wpList_store_arr (by rw [hs1]; exact Try.infoHouse) (by rw [hZs, hs1]) HO1.out rfl (.tmp 8) (.tmp 21) rfl wr.heap.size rfl rfl HA.out ?_
             intro ws hws kss hss
             have HW := Lib.hid hws
             have HKS := Lib.hid (HKA.out.trans kss (fun b e => .inr (by omega)))
             have HSS : Hid (ws.heap.size = wr.heap.size + 1) := Lib.hid (hss.trans HSZ.out)
             have HR2s := Lib.hid (rangeAt_keep HR2.out HKS.out HG2.out (fun h => h))
             have HNW := Lib.hid (heap_alloc_new ws (.cells C2 65))
             have HOW := Lib.hid ((((Keep.refl (fun _ => False) ws).alloc (.cells C2 65)).block _ (lt_of_block hws) (fun h => h)).trans hws)
             have HKW := Lib.hid (HKS.out.alloc (.cells C2 65))
             have HSM := Lib.hid (sameHouse_any (eHouse.keep HKW.out (fun _ _ _ h => h) HH1.out) (eHouse.keep HKW.out (fun _ _ _ h => h) HH2.out))
             rw [← HC1.out, ← HC2.out] at HSM
             clear hws kss hss)
          | (refine wpList_load_mid rfl 65 (.tmp 24) rfl g2 (o2 + k * 4) rfl cs2 _ HR2s.out Try.underlying65 rfl (by rw [len2]; exact Try.infoHouse) ?_; rw [← HC2.out])
          | (refine wpList_load_arr Try.underlying65 rfl (by rw [hs1]; exact Try.infoHouse) rfl (.tmp 8) rfl wr.heap.size rfl HOW.out ?_)
          | (refine wpList_load_arr Try.underlying65 rfl (by rw [hs2]; exact Try.infoHouse) rfl (.tmp 9) rfl ws.heap.size rfl HNW.out ?_))
        refine HSM.out.mono ?_
        rintro e w4 ⟨b, rfl, hbb, hk4⟩
        have HB := Lib.hid hbb
        have HK4 := Lib.hid ((HK.out.trans HKW.out (fun _ h => h.elim)).trans hk4 (fun _ h => h.elim))
        clear hbb hk4
        cases b with
        | true =>
          have hxy := HB.out.1 rfl
          subst hxy
          go_wp2_with fail
          go_roundw
          case rel =>
            (repeat apply Exists.intro)
            exact EqR.step HX.out HY.out HT.out HK4.out (by go_num)
          case measure => simp [intOf]; omega
        | false =>
          have HNE : Hid (l1 ≠ l2) := Lib.hid (ne_at HX.out HY.out (fun e => by have := HB.out.2 e; cases this))
          go_wp2_with fail
          go_ret
          refine ⟨false, rfl, ⟨fun h => ?_, fun h => absurd h HNE.out⟩, HK4.out⟩
          cases h
      · obtain rfl : k = n1 := by omega
        go_wp2
        go_ret
        refine ⟨true, rfl, ⟨fun _ => ?_, fun _ => rfl⟩, HK.out⟩
        have h9 := HT.out
        rwa [List.take_of_length_le (by have := HN1.out; omega), List.take_of_length_le (by have := HN2.out; omega)] at h9
  · have hne1 : ¬ (n1 : Int) = (n2 : Int) := by omega
    have hq : ((n1 : Int) != (n2 : Int)) = true := by simpa using hne1
    go_enter Try.func55, Try.ntmps55
    go_wp2
    go_ret
    refine ⟨false, rfl, ⟨fun h => ?_, fun h => ?_⟩, Keep.refl _ w⟩
    · cases h
    · rw [h] at HN1; have := HN1.out; have := HN2.out; omega

theorem Try.enSameChar : ∀ args w, (callFunc 52 args).run Try.prog w = .ok (.enter 52 args) w := enters_of Try.func52 (by kernel_rfl) rfl

set_option maxHeartbeats 1000000 in
theorem eqChars_any {w : World} {Pb Qb : Nat → Prop} {v1 v2 : Value} {l1 l2 : List _} (h1 : LAt eChar Pb w v1 l1) (h2 : LAt eChar Qb w v2 l2) : Calls Try.prog 51 #[v1, v2, .func (.func 52) #[] #[]] w (EqA l1 l2 w) := by
  have H1 := Lib.hid h1
  have H2 := Lib.hid h2
  obtain ⟨a1, c1, rfl, hb1⟩ := h1.slice
  obtain ⟨a2, c2, rfl, hb2⟩ := h2.slice
  obtain ⟨n1, hn1⟩ : ∃ n, n = l1.length := ⟨_, rfl⟩
  obtain ⟨n2, hn2⟩ : ∃ n, n = l2.length := ⟨_, rfl⟩
  rw [← hn1] at H1 hb1 ⊢
  rw [← hn2] at H2 hb2 ⊢
  have HN1 := Lib.hid hn1
  have HN2 := Lib.hid hn2
  obtain ⟨Z, HZ, hZs⟩ := zChar
  clear h1 h2 hn1 hn2
  by_cases hne : n1 = n2
  · subst hne
    go_enter Try.func51, Try.ntmps51
    go_wp2_with fail
    go_loopw [17] (fun i wr => EqR l1 l2 w i wr) (fun i _ => n1 - (intOf i).toNat)
    case atStart => exact ⟨0, by omega, rfl, Keep.refl _ w, by simp⟩
    case round =>
      obtain ⟨k, hk, rfl, hkk, ht⟩ := hrel.ex
      clear hrel
      have HK := Lib.hid hkk
      have HT := Lib.hid ht
      rw [← HN1.out] at hk
      clear hkk ht
      by_cases hlt : k < n1
      · have hlt1 : (k : Int) < (n1 : Int) := by omega
        obtain ⟨x, hx⟩ : ∃ x, l1[k]? = some x := ⟨_, List.getElem?_eq_getElem (by have := HN1.out; omega)⟩
        obtain ⟨y, hy⟩ : ∃ y, l2[k]? = some y := ⟨_, List.getElem?_eq_getElem (by have := HN2.out; omega)⟩
        obtain ⟨g1, o1, cs1, rfl, q1, _, hH1, hr1⟩ := (H1.out.keep HK.out (fun _ _ _ h => h)).get k x hx
        obtain ⟨g2, o2, cs2, rfl, q2, _, hH2, hr2⟩ := (H2.out.keep HK.out (fun _ _ _ h => h)).get k y hy
        have HX := Lib.hid hx
        have HY := Lib.hid hy
        have HR1 := Lib.hid hr1
        have HR2 := Lib.hid hr2
        have HG1 := Lib.hid q1
        have HG2 := Lib.hid q2
        have HH1 := Lib.hid hH1
        have HH2 := Lib.hid hH2
        have len1 : cs1.length = 10 := eChar.len hH1
        have len2 : cs2.length = 10 := eChar.len hH2
        have hs1 : cs1.toArray.size = 10 := by rw [List.size_toArray]; exact len1
        have hs2 : cs2.toArray.size = 10 := by rw [List.size_toArray]; exact len2
        have HO1 : Hid (cs1.toArray.all (·.oneCell') = true) := Lib.hid (by rw [Array.all_eq_true_iff_forall_mem]; intro u hu; exact eChar.one hH1 u (by simpa using hu))
        have HO2 : Hid (cs2.toArray.all (·.oneCell') = true) := Lib.hid (by rw [Array.all_eq_true_iff_forall_mem]; intro u hu; exact eChar.one hH2 u (by simpa using hu))
        obtain ⟨C1, hC1⟩ : ∃ C, C = cs1.toArray := ⟨_, rfl⟩
        obtain ⟨C2, hC2⟩ : ∃ C, C = cs2.toArray := ⟨_, rfl⟩
        have HC1 := Lib.hid hC1
        have HC2 := Lib.hid hC2
        rw [← hC1] at HO1 hs1
        rw [← hC2] at HO2 hs2
        have HA := Lib.hid (heap_alloc_new wr (.cells Z 58))
        have HKA := Lib.hid ((Keep.refl (fun _ => False) wr).alloc (.cells Z 58))
        have HSZ : Hid ((wr.alloc (.cells Z 58)).heap.size = wr.heap.size + 1) := Lib.hid (World.size_alloc ..)
        have hen := Try.enSameChar
        clear hH1 hH2 hr1 hr2 hx hy hC1 hC2 q1 q2
        go_wp2_with (first
          | (refine wpList_load_mid rfl 58 (.tmp 20) rfl g1 (o1 + k * 10) rfl cs1 _ HR1.out Try.underlying58 rfl (by rw [len1]; exact Try.infoChar) ?_; rw [← HC1.out])
          | (refine wpList_var_arr HZ (by rw [hs2]; exact Try.infoChar) (by rw [hZs, hs2]) HO2.out rfl rfl rfl (.tmp 9) (.tmp 25) rfl rfl rfl ?_)
          | (refine wpList_alloc_arr HZ rfl rfl ?_)
          | (refine wpList_store_arr (by rw [hs1]; exact Try.infoChar) (by rw [hZs, hs1]) HO1.out rfl (.tmp 8) (.tmp 21) rfl wr.heap.size rfl rfl HA.out ?_
             intro ws hws kss hss
             have HW := Lib.hid hws
             have HKS := Lib.hid (HKA.out.trans kss (fun b e => .inr (by omega)))
             have HSS : Hid (ws.heap.size = wr.heap.size + 1) := Lib.hid (hss.trans HSZ.out)
             have HR2s := Lib.hid (rangeAt_keep HR2.out HKS.out HG2.out (fun h => h))
             have HNW := Lib.hid (heap_alloc_new ws (.cells C2 58))
             have HOW := Lib.hid ((((Keep.refl (fun _ => False) ws).alloc (.cells C2 58)).block _ (lt_of_block hws) (fun h => h)).trans hws)
             have HKW := Lib.hid (HKS.out.alloc (.cells C2 58))
             have HSM := Lib.hid (sameChar_any (eChar.keep HKW.out (fun _ _ _ h => h) HH1.out) (eChar.keep HKW.out (fun _ _ _ h => h) HH2.out))
             rw [← HC1.out, ← HC2.out] at HSM
             clear hws kss hss)
          | (refine wpList_load_mid rfl 58 (.tmp 24) rfl g2 (o2 + k * 10) rfl cs2 _ HR2s.out Try.underlying58 rfl (by rw [len2]; exact Try.infoChar) ?_; rw [← HC2.out])
          | (refine wpList_load_arr Try.underlying58 rfl (by rw [hs1]; exact Try.infoChar) rfl (.tmp 8) rfl wr.heap.size rfl HOW.out ?_)
          | (refine wpList_load_arr Try.underlying58 rfl (by rw [hs2]; exact Try.infoChar) rfl (.tmp 9) rfl ws.heap.size rfl HNW.out ?_))
        refine HSM.out.mono ?_
        rintro e w4 ⟨b, rfl, hbb, hk4⟩
        have HB := Lib.hid hbb
        have HK4 := Lib.hid ((HK.out.trans HKW.out (fun _ h => h.elim)).trans hk4 (fun _ h => h.elim))
        clear hbb hk4
        cases b with
        | true =>
          have hxy := HB.out.1 rfl
          subst hxy
          go_wp2_with fail
          go_roundw
          case rel =>
            (repeat apply Exists.intro)
            exact EqR.step HX.out HY.out HT.out HK4.out (by go_num)
          case measure => simp [intOf]; omega
        | false =>
          have HNE : Hid (l1 ≠ l2) := Lib.hid (ne_at HX.out HY.out (fun e => by have := HB.out.2 e; cases this))
          go_wp2_with fail
          go_ret
          refine ⟨false, rfl, ⟨fun h => ?_, fun h => absurd h HNE.out⟩, HK4.out⟩
          cases h
      · obtain rfl : k = n1 := by omega
        go_wp2
        go_ret
        refine ⟨true, rfl, ⟨fun _ => ?_, fun _ => rfl⟩, HK.out⟩
        have h9 := HT.out
        rwa [List.take_of_length_le (by have := HN1.out; omega), List.take_of_length_le (by have := HN2.out; omega)] at h9
  · have hne1 : ¬ (n1 : Int) = (n2 : Int) := by omega
    have hq : ((n1 : Int) != (n2 : Int)) = true := by simpa using hne1
    go_enter Try.func51, Try.ntmps51
    go_wp2
    go_ret
    refine ⟨false, rfl, ⟨fun h => ?_, fun h => ?_⟩, Keep.refl _ w⟩
    · cases h
    · rw [h] at HN1; have := HN1.out; have := HN2.out; omega

end Go.Proofs.Ytpefkellcigpkaa.Cd
