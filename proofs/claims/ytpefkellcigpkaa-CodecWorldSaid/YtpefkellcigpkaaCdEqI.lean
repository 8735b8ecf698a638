/- codec: lists of numbers and texts, compared. -/
import Derived.Test.YtpefkellcigpkaaCdEq1
namespace Go.Proofs.Ytpefkellcigpkaa.Cd
open Go.RowKit Go.Proofs.Ytpefkellcigpkaa
set_option maxRecDepth 100000

theorem eqInts_any {w : World} {Pb Qb : Nat → Prop} {v1 v2 : Value} {l1 l2 : List Int} (h1 : LAt eI Pb w v1 l1) (h2 : LAt eI Qb w v2 l2) : Calls Try.prog 66 #[v1, v2] w (EqA l1 l2 w) := by
  have H1 := Lib.hid h1
  have H2 := Lib.hid h2
  obtain ⟨a1, c1, rfl, hb1⟩ := h1.slice
  obtain ⟨a2, c2, rfl, hb2⟩ := h2.slice
  obtain ⟨n1, hn1⟩ : ∃ n, n = l1.length := ⟨_, rfl⟩
  obtain ⟨n2, hn2⟩ : ∃ n, n = l2.length := ⟨_, rfl⟩
  rw [← hn1] at H1 hb1 ⊢
  rw [← hn2] at H2 hb2 ⊢
  have HN1 := Lib.hid hn1
  have HN2 := Lib.hid hn2
  clear h1 h2 hn1 hn2
  by_cases hne : n1 = n2
  · subst hne
    go_enter Try.func66, Try.ntmps66
    go_wp2_with fail
    go_loopw [13] (fun i wr => EqR l1 l2 w i wr) (fun i _ => n1 - (intOf i).toNat)
    case atStart => exact ⟨0, by omega, rfl, Keep.refl _ w, by simp⟩
    case round =>
      obtain ⟨k, hk, rfl, hkk, ht⟩ := hrel.ex
      clear hrel
      have HK := Lib.hid hkk
      have HT := Lib.hid ht
      rw [← HN1.out] at hk
      clear hkk ht
      by_cases hlt : k < n1
      · have hlt1 : (k : Int) < (n1 : Int) := by omega
        obtain ⟨x, hx⟩ : ∃ x, l1[k]? = some x := ⟨_, List.getElem?_eq_getElem (by have := HN1.out; omega)⟩
        obtain ⟨y, hy⟩ : ∃ y, l2[k]? = some y := ⟨_, List.getElem?_eq_getElem (by have := HN2.out; omega)⟩
        obtain ⟨g1, o1, cs1, rfl, _, _, hH1, hr1⟩ := (H1.out.keep HK.out (fun _ _ _ h => h)).get k x hx
        obtain ⟨g2, o2, cs2, rfl, _, _, hH2, hr2⟩ := (H2.out.keep HK.out (fun _ _ _ h => h)).get k y hy
        have HX := Lib.hid hx
        have HY := Lib.hid hy
        have e1 : cs1 = [.int .i64 x] := hH1
        have e2 : cs2 = [.int .i64 y] := hH2
        subst e1 e2
        have cg10 : wr.cell? ⟨g1, o1 + k, none⟩ = some (.int .i64 x) := by have := hr1 0 _ rfl; simpa [eI] using this
        have cg20 : wr.cell? ⟨g2, o2 + k, none⟩ = some (.int .i64 y) := by have := hr2 0 _ rfl; simpa [eI] using this
        clear hH1 hH2 hr1 hr2 hx hy
        by_cases hxy0 : x = y
        · subst hxy0
          have hq2 : (x != x) = false := by simp
          go_wp2_with fail
          go_region
          all_goals
            go_wp2_with fail
            go_roundw
            case rel =>
              (repeat apply Exists.intro)
              exact EqR.step HX.out HY.out HT.out HK.out.drew (by go_num)
            case measure => simp [intOf]; omega
        · have hq : (x == y) = false := by simpa using hxy0
          have hq2 : (x != y) = true := by simpa using hxy0
          have HNE : Hid (l1 ≠ l2) := Lib.hid (ne_at HX.out HY.out hxy0)
          clear hxy0
          go_wp2_with fail
          go_region
          all_goals
            go_wp2_with fail
            go_ret
            refine ⟨false, rfl, ⟨fun h => ?_, fun h => absurd h HNE.out⟩, HK.out.drew⟩
            cases h
      · obtain rfl : k = n1 := by omega
        go_wp2
        go_ret
        refine ⟨true, rfl, ⟨fun _ => ?_, fun _ => rfl⟩, HK.out⟩
        have h9 := HT.out
        rwa [List.take_of_length_le (by have := HN1.out; omega), List.take_of_length_le (by have := HN2.out; omega)] at h9
  · have hne1 : ¬ (n1 : Int) = (n2 : Int) := by omega
    have hq : ((n1 : Int) != (n2 : Int)) = true := by simpa using hne1
    go_enter Try.func66, Try.ntmps66
    go_wp2
    go_ret
    refine ⟨false, rfl, ⟨fun h => ?_, fun h => ?_⟩, Keep.refl _ w⟩
    · cases h
    · rw [h] at HN1; have := HN1.out; have := HN2.out; omega

theorem eqTexts_any {w : World} {Pb Qb : Nat → Prop} {v1 v2 : Value} {l1 l2 : List ByteArray} (h1 : LAt eS Pb w v1 l1) (h2 : LAt eS Qb w v2 l2) : Calls Try.prog 80 #[v1, v2] w (EqA l1 l2 w) := by
  have H1 := Lib.hid h1
  have H2 := Lib.hid h2
  obtain ⟨a1, c1, rfl, hb1⟩ := h1.slice
  obtain ⟨a2, c2, rfl, hb2⟩ := h2.slice
  obtain ⟨n1, hn1⟩ : ∃ n, n = l1.length := ⟨_, rfl⟩
  obtain ⟨n2, hn2⟩ : ∃ n, n = l2.length := ⟨_, rfl⟩
  rw [← hn1] at H1 hb1 ⊢
  rw [← hn2] at H2 hb2 ⊢
  have HN1 := Lib.hid hn1
  have HN2 := Lib.hid hn2
  clear h1 h2 hn1 hn2
  by_cases hne : n1 = n2
  · subst hne
    go_enter Try.func80, Try.ntmps80
    go_wp2_with fail
    go_loopw [13] (fun i wr => EqR l1 l2 w i wr) (fun i _ => n1 - (intOf i).toNat)
    case atStart => exact ⟨0, by omega, rfl, Keep.refl _ w, by simp⟩
    case round =>
      obtain ⟨k, hk, rfl, hkk, ht⟩ := hrel.ex
      clear hrel
      have HK := Lib.hid hkk
      have HT := Lib.hid ht
      rw [← HN1.out] at hk
      clear hkk ht
      by_cases hlt : k < n1
      · have hlt1 : (k : Int) < (n1 : Int) := by omega
        obtain ⟨x, hx⟩ : ∃ x, l1[k]? = some x := ⟨_, List.getElem?_eq_getElem (by have := HN1.out; omega)⟩
        obtain ⟨y, hy⟩ : ∃ y, l2[k]? = some y := ⟨_, List.getElem?_eq_getElem (by have := HN2.out; omega)⟩
        obtain ⟨g1, o1, cs1, rfl, _, _, hH1, hr1⟩ := (H1.out.keep HK.out (fun _ _ _ h => h)).get k x hx
        obtain ⟨g2, o2, cs2, rfl, _, _, hH2, hr2⟩ := (H2.out.keep HK.out (fun _ _ _ h => h)).get k y hy
        have HX := Lib.hid hx
        have HY := Lib.hid hy
        have e1 : cs1 = [.string x] := hH1
        have e2 : cs2 = [.string y] := hH2
        subst e1 e2
        have cg10 : wr.cell? ⟨g1, o1 + k, none⟩ = some (.string x) := by have := hr1 0 _ rfl; simpa [eS] using this
        have cg20 : wr.cell? ⟨g2, o2 + k, none⟩ = some (.string y) := by have := hr2 0 _ rfl; simpa [eS] using this
        clear hH1 hH2 hr1 hr2 hx hy
        by_cases hxy0 : x = y
        · subst hxy0
          have hq2 : (x.toList != x.toList) = false := by simp
          go_wp2_with fail
          go_region
          all_goals
            go_wp2_with fail
            go_roundw
            case rel =>
              (repeat apply Exists.intro)
              exact EqR.step HX.out HY.out HT.out HK.out.drew (by go_num)
            case measure => simp [intOf]; omega
        · have hq : (x.toList == y.toList) = false := str_ne hxy0
          have hq2 : (x.toList != y.toList) = true := by rw [bne, hq]; rfl
          have HNE : Hid (l1 ≠ l2) := Lib.hid (ne_at HX.out HY.out hxy0)
          clear hxy0
          go_wp2_with fail
          go_region
          all_goals
            go_wp2_with fail
            go_ret
            refine ⟨false, rfl, ⟨fun h => ?_, fun h => absurd h HNE.out⟩, HK.out.drew⟩
            cases h
      · obtain rfl : k = n1 := by omega
        go_wp2
        go_ret
        refine ⟨true, rfl, ⟨fun _ => ?_, fun _ => rfl⟩, HK.out⟩
        have h9 := HT.out
        rwa [List.take_of_length_le (by have := HN1.out; omega), List.take_of_length_le (by have := HN2.out; omega)] at h9
  · have hne1 : ¬ (n1 : Int) = (n2 : Int) := by omega
    have hq : ((n1 : Int) != (n2 : Int)) = true := by simpa using hne1
    go_enter Try.func80, Try.ntmps80
    go_wp2
    go_ret
    refine ⟨false, rfl, ⟨fun h => ?_, fun h => ?_⟩, Keep.refl _ w⟩
    · cases h
    · rw [h] at HN1; have := HN1.out; have := HN2.out; omega

theorem rInts_any {w : World} {Pb Qb : Nat → Prop} {v1 v2 : Value} {l1 l2 : List Int} (h1 : LAt eI Pb w v1 l1) (h2 : LAt eI Qb w v2 l2) : Calls Try.prog 49 #[v1, v2] w (EqA l1 l2 w) := by
  have H1 := Lib.hid h1
  have H2 := Lib.hid h2
  obtain ⟨a1, c1, rfl, hb1⟩ := h1.slice
  obtain ⟨a2, c2, rfl, hb2⟩ := h2.slice
  obtain ⟨n1, hn1⟩ : ∃ n, n = l1.length := ⟨_, rfl⟩
  obtain ⟨n2, hn2⟩ : ∃ n, n = l2.length := ⟨_, rfl⟩
  rw [← hn1] at H1 hb1 ⊢
  rw [← hn2] at H2 hb2 ⊢
  have HN1 := Lib.hid hn1
  have HN2 := Lib.hid hn2
  clear h1 h2 hn1 hn2
  by_cases hne : n1 = n2
  · subst hne
    go_enter Try.func49, Try.ntmps49
    go_wp2_with fail
    go_loopw [5] (fun i wr => EqR l1 l2 w i wr) (fun i _ => n1 - (intOf i).toNat)
    case atStart => exact ⟨0, by omega, rfl, Keep.refl _ w, by simp⟩
    case round =>
      obtain ⟨k, hk, rfl, hkk, ht⟩ := hrel.ex
      clear hrel
      have HK := Lib.hid hkk
      have HT := Lib.hid ht
      rw [← HN1.out] at hk
      clear hkk ht
      by_cases hlt : k < n1
      · have hlt1 : (k : Int) < (n1 : Int) := by omega
        obtain ⟨x, hx⟩ : ∃ x, l1[k]? = some x := ⟨_, List.getElem?_eq_getElem (by have := HN1.out; omega)⟩
        obtain ⟨y, hy⟩ : ∃ y, l2[k]? = some y := ⟨_, List.getElem?_eq_getElem (by have := HN2.out; omega)⟩
        obtain ⟨g1, o1, cs1, rfl, _, _, hH1, hr1⟩ := (H1.out.keep HK.out (fun _ _ _ h => h)).get k x hx
        obtain ⟨g2, o2, cs2, rfl, _, _, hH2, hr2⟩ := (H2.out.keep HK.out (fun _ _ _ h => h)).get k y hy
        have HX := Lib.hid hx
        have HY := Lib.hid hy
        have e1 : cs1 = [.int .i64 x] := hH1
        have e2 : cs2 = [.int .i64 y] := hH2
        subst e1 e2
        have cg10 : wr.cell? ⟨g1, o1 + k, none⟩ = some (.int .i64 x) := by have := hr1 0 _ rfl; simpa [eI] using this
        have cg20 : wr.cell? ⟨g2, o2 + k, none⟩ = some (.int .i64 y) := by have := hr2 0 _ rfl; simpa [eI] using this
        clear hH1 hH2 hr1 hr2 hx hy
        by_cases hxy0 : x = y
        · subst hxy0
          have hq2 : (x != x) = false := by simp
          go_wp2_with fail
          go_region
          all_goals
            go_wp2_with fail
            go_roundw
            case rel =>
              (repeat apply Exists.intro)
              exact EqR.step HX.out HY.out HT.out HK.out.drew (by go_num)
            case measure => simp [intOf]; omega
        · have hq : (x == y) = false := by simpa using hxy0
          have hq2 : (x != y) = true := by simpa using hxy0
          have HNE : Hid (l1 ≠ l2) := Lib.hid (ne_at HX.out HY.out hxy0)
          clear hxy0
          go_wp2_with fail
          go_region
          all_goals
            go_wp2_with fail
            go_ret
            refine ⟨false, rfl, ⟨fun h => ?_, fun h => absurd h HNE.out⟩, HK.out.drew⟩
            cases h
      · obtain rfl : k = n1 := by omega
        go_wp2
        go_ret
        refine ⟨true, rfl, ⟨fun _ => ?_, fun _ => rfl⟩, HK.out⟩
        have h9 := HT.out
        rwa [List.take_of_length_le (by have := HN1.out; omega), List.take_of_length_le (by have := HN2.out; omega)] at h9
  · have hne1 : ¬ (n1 : Int) = (n2 : Int) := by omega
    have hq : ((n1 : Int) != (n2 : Int)) = true := by simpa using hne1
    go_enter Try.func49, Try.ntmps49
    go_wp2
    go_ret
    refine ⟨false, rfl, ⟨fun h => ?_, fun h => ?_⟩, Keep.refl _ w⟩
    · cases h
    · rw [h] at HN1; have := HN1.out; have := HN2.out; omega

theorem rTexts_any {w : World} {Pb Qb : Nat → Prop} {v1 v2 : Value} {l1 l2 : List ByteArray} (h1 : LAt eS Pb w v1 l1) (h2 : LAt eS Qb w v2 l2) : Calls Try.prog 50 #[v1, v2] w (EqA l1 l2 w) := by
  have H1 := Lib.hid h1
  have H2 := Lib.hid h2
  obtain ⟨a1, c1, rfl, hb1⟩ := h1.slice
  obtain ⟨a2, c2, rfl, hb2⟩ := h2.slice
  obtain ⟨n1, hn1⟩ : ∃ n, n = l1.length := ⟨_, rfl⟩
  obtain ⟨n2, hn2⟩ : ∃ n, n = l2.length := ⟨_, rfl⟩
  rw [← hn1] at H1 hb1 ⊢
  rw [← hn2] at H2 hb2 ⊢
  have HN1 := Lib.hid hn1
  have HN2 := Lib.hid hn2
  clear h1 h2 hn1 hn2
  by_cases hne : n1 = n2
  · subst hne
    go_enter Try.func50, Try.ntmps50
    go_wp2_with fail
    go_loopw [5] (fun i wr => EqR l1 l2 w i wr) (fun i _ => n1 - (intOf i).toNat)
    case atStart => exact ⟨0, by omega, rfl, Keep.refl _ w, by simp⟩
    case round =>
      obtain ⟨k, hk, rfl, hkk, ht⟩ := hrel.ex
      clear hrel
      have HK := Lib.hid hkk
      have HT := Lib.hid ht
      rw [← HN1.out] at hk
      clear hkk ht
      by_cases hlt : k < n1
      · have hlt1 : (k : Int) < (n1 : Int) := by omega
        obtain ⟨x, hx⟩ : ∃ x, l1[k]? = some x := ⟨_, List.getElem?_eq_getElem (by have := HN1.out; omega)⟩
        obtain ⟨y, hy⟩ : ∃ y, l2[k]? = some y := ⟨_, List.getElem?_eq_getElem (by have := HN2.out; omega)⟩
        obtain ⟨g1, o1, cs1, rfl, _, _, hH1, hr1⟩ := (H1.out.keep HK.out (fun _ _ _ h => h)).get k x hx
        obtain ⟨g2, o2, cs2, rfl, _, _, hH2, hr2⟩ := (H2.out.keep HK.out (fun _ _ _ h => h)).get k y hy
        have HX := Lib.hid hx
        have HY := Lib.hid hy
        have e1 : cs1 = [.string x] := hH1
        have e2 : cs2 = [.string y] := hH2
        subst e1 e2
        have cg10 : wr.cell? ⟨g1, o1 + k, none⟩ = some (.string x) := by have := hr1 0 _ rfl; simpa [eS] using this
        have cg20 : wr.cell? ⟨g2, o2 + k, none⟩ = some (.string y) := by have := hr2 0 _ rfl; simpa [eS] using this
        clear hH1 hH2 hr1 hr2 hx hy
        by_cases hxy0 : x = y
        · subst hxy0
          have hq2 : (x.toList != x.toList) = false := by simp
          go_wp2_with fail
          go_region
          all_goals
            go_wp2_with fail
            go_roundw
            case rel =>
              (repeat apply Exists.intro)
              exact EqR.step HX.out HY.out HT.out HK.out.drew (by go_num)
            case measure => simp [intOf]; omega
        · have hq : (x.toList == y.toList) = false := str_ne hxy0
          have hq2 : (x.toList != y.toList) = true := by rw [bne, hq]; rfl
          have HNE : Hid (l1 ≠ l2) := Lib.hid (ne_at HX.out HY.out hxy0)
          clear hxy0
          go_wp2_with fail
          go_region
          all_goals
            go_wp2_with fail
            go_ret
            refine ⟨false, rfl, ⟨fun h => ?_, fun h => absurd h HNE.out⟩, HK.out.drew⟩
            cases h
      · obtain rfl : k = n1 := by omega
        go_wp2
        go_ret
        refine ⟨true, rfl, ⟨fun _ => ?_, fun _ => rfl⟩, HK.out⟩
        have h9 := HT.out
        rwa [List.take_of_length_le (by have := HN1.out; omega), List.take_of_length_le (by have := HN2.out; omega)] at h9
  · have hne1 : ¬ (n1 : Int) = (n2 : Int) := by omega
    have hq : ((n1 : Int) != (n2 : Int)) = true := by simpa using hne1
    go_enter Try.func50, Try.ntmps50
    go_wp2
    go_ret
    refine ⟨false, rfl, ⟨fun h => ?_, fun h => ?_⟩, Keep.refl _ w⟩
    · cases h
    · rw [h] at HN1; have := HN1.out; have := HN2.out; omega

end Go.Proofs.Ytpefkellcigpkaa.Cd
