/- codec: lists of Tills, compared. -/
import Derived.Test.YtpefkellcigpkaaCdEq1
namespace Go.Proofs.Ytpefkellcigpkaa.Cd
open Go.RowKit Go.Proofs.Ytpefkellcigpkaa
set_option maxRecDepth 100000

theorem eqTills_any {w : World} {Pb Qb : Nat → Prop} {v1 v2 : Value} {l1 l2 : List (Int × Int)} (h1 : LAt eTill Pb w v1 l1) (h2 : LAt eTill Qb w v2 l2) : Calls Try.prog 58 #[v1, v2] w (EqA l1 l2 w) := by
  have H1 := Lib.hid h1
  have H2 := Lib.hid h2
  obtain ⟨a1, c1, rfl, hb1⟩ := h1.slice
  obtain ⟨a2, c2, rfl, hb2⟩ := h2.slice
  obtain ⟨n1, hn1⟩ : ∃ n, n = l1.length := ⟨_, rfl⟩
  obtain ⟨n2, hn2⟩ : ∃ n, n = l2.length := ⟨_, rfl⟩
  rw [← hn1] at H1 hb1 ⊢
  rw [← hn2] at H2 hb2 ⊢
  have HN1 := Lib.hid hn1
  have HN2 := Lib.hid hn2
  clear h1 h2 hn1 hn2
  by_cases hne : n1 = n2
  · subst hne
    go_enter Try.func58, Try.ntmps58
    go_wp2_with fail
    go_loopw [13] (fun i wr => EqR l1 l2 w i wr) (fun i _ => n1 - (intOf i).toNat)
    case atStart => exact ⟨0, by omega, rfl, Keep.refl _ w, by simp⟩
    case round =>
      obtain ⟨k, hk, rfl, hkk, ht⟩ := hrel.ex
      clear hrel
      have HK := Lib.hid hkk
      have HT := Lib.hid ht
      rw [← HN1.out] at hk
      clear hkk ht
      by_cases hlt : k < n1
      · have hlt1 : (k : Int) < (n1 : Int) := by omega
        obtain ⟨x, hx⟩ : ∃ x, l1[k]? = some x := ⟨_, List.getElem?_eq_getElem (by have := HN1.out; omega)⟩
        obtain ⟨y, hy⟩ : ∃ y, l2[k]? = some y := ⟨_, List.getElem?_eq_getElem (by have := HN2.out; omega)⟩
        obtain ⟨g1, o1, cs1, rfl, _, _, hH1, hr1⟩ := (H1.out.keep HK.out (fun _ _ _ h => h)).get k x hx
        obtain ⟨g2, o2, cs2, rfl, _, _, hH2, hr2⟩ := (H2.out.keep HK.out (fun _ _ _ h => h)).get k y hy
        have HX := Lib.hid hx
        have HY := Lib.hid hy
        obtain ⟨x0, x1⟩ := x
        obtain ⟨y0, y1⟩ := y
        have e1 : cs1 = [.int .i64 x0, .int .i64 x1] := hH1
        have e2 : cs2 = [.int .i64 y0, .int .i64 y1] := hH2
        subst e1 e2
        have cg10 : wr.cell? ⟨g1, o1 + k * 2, none⟩ = some (.int .i64 x0) := by have := hr1 0 _ rfl; simpa [eTill] using this
        have cg11 : wr.cell? ⟨g1, o1 + k * 2 + 1, none⟩ = some (.int .i64 x1) := by have := hr1 1 _ rfl; simpa [eTill] using this
        have cg20 : wr.cell? ⟨g2, o2 + k * 2, none⟩ = some (.int .i64 y0) := by have := hr2 0 _ rfl; simpa [eTill] using this
        have cg21 : wr.cell? ⟨g2, o2 + k * 2 + 1, none⟩ = some (.int .i64 y1) := by have := hr2 1 _ rfl; simpa [eTill] using this
        clear hH1 hH2 hr1 hr2 hx hy
        by_cases hxy0 : x0 = y0
        · subst hxy0
          by_cases hxy1 : x1 = y1
          · subst hxy1
            go_wp2_with fail
            go_region
            all_goals
              go_wp2_with fail
              go_roundw
              case rel =>
                (repeat apply Exists.intro)
                exact EqR.step HX.out HY.out HT.out HK.out.drew (by go_num)
              case measure => simp [intOf]; omega
          · have hq : (x1 == y1) = false := by simpa using hxy1
            have HNE : Hid (l1 ≠ l2) := Lib.hid (ne_at HX.out HY.out (fun e => hxy1 (by simp only [Prod.mk.injEq] at e; simp only [e])))
            clear hxy1
            go_wp2_with fail
            go_region
            all_goals
              go_wp2_with fail
              go_ret
              refine ⟨false, rfl, ⟨fun h => ?_, fun h => absurd h HNE.out⟩, HK.out.drew⟩
              cases h
        · have hq : (x0 == y0) = false := by simpa using hxy0
          have HNE : Hid (l1 ≠ l2) := Lib.hid (ne_at HX.out HY.out (fun e => hxy0 (by simp only [Prod.mk.injEq] at e; simp only [e])))
          clear hxy0
          go_wp2_with fail
          go_region
          all_goals
            go_wp2_with fail
            go_ret
            refine ⟨false, rfl, ⟨fun h => ?_, fun h => absurd h HNE.out⟩, HK.out.drew⟩
            cases h
      · obtain rfl : k = n1 := by omega
        go_wp2
        go_ret
        refine ⟨true, rfl, ⟨fun _ => ?_, fun _ => rfl⟩, HK.out⟩
        have h9 := HT.out
        rwa [List.take_of_length_le (by have := HN1.out; omega), List.take_of_length_le (by have := HN2.out; omega)] at h9
  · have hne1 : ¬ (n1 : Int) = (n2 : Int) := by omega
    have hq : ((n1 : Int) != (n2 : Int)) = true := by simpa using hne1
    go_enter Try.func58, Try.ntmps58
    go_wp2
    go_ret
    refine ⟨false, rfl, ⟨fun h => ?_, fun h => ?_⟩, Keep.refl _ w⟩
    · cases h
    · rw [h] at HN1; have := HN1.out; have := HN2.out; omega

end Go.Proofs.Ytpefkellcigpkaa.Cd
/- codec: lists of Mobs, compared. -/
namespace Go.Proofs.Ytpefkellcigpkaa.Cd
open Go.RowKit Go.Proofs.Ytpefkellcigpkaa
set_option maxRecDepth 100000

theorem eqMobs_any {w : World} {Pb Qb : Nat → Prop} {v1 v2 : Value} {l1 l2 : List (Int × Int × Int × Int)} (h1 : LAt eMob Pb w v1 l1) (h2 : LAt eMob Qb w v2 l2) : Calls Try.prog 54 #[v1, v2] w (EqA l1 l2 w) := by
  have H1 := Lib.hid h1
  have H2 := Lib.hid h2
  obtain ⟨a1, c1, rfl, hb1⟩ := h1.slice
  obtain ⟨a2, c2, rfl, hb2⟩ := h2.slice
  obtain ⟨n1, hn1⟩ : ∃ n, n = l1.length := ⟨_, rfl⟩
  obtain ⟨n2, hn2⟩ : ∃ n, n = l2.length := ⟨_, rfl⟩
  rw [← hn1] at H1 hb1 ⊢
  rw [← hn2] at H2 hb2 ⊢
  have HN1 := Lib.hid hn1
  have HN2 := Lib.hid hn2
  clear h1 h2 hn1 hn2
  by_cases hne : n1 = n2
  · subst hne
    go_enter Try.func54, Try.ntmps54
    go_wp2_with fail
    go_loopw [13] (fun i wr => EqR l1 l2 w i wr) (fun i _ => n1 - (intOf i).toNat)
    case atStart => exact ⟨0, by omega, rfl, Keep.refl _ w, by simp⟩
    case round =>
      obtain ⟨k, hk, rfl, hkk, ht⟩ := hrel.ex
      clear hrel
      have HK := Lib.hid hkk
      have HT := Lib.hid ht
      rw [← HN1.out] at hk
      clear hkk ht
      by_cases hlt : k < n1
      · have hlt1 : (k : Int) < (n1 : Int) := by omega
        obtain ⟨x, hx⟩ : ∃ x, l1[k]? = some x := ⟨_, List.getElem?_eq_getElem (by have := HN1.out; omega)⟩
        obtain ⟨y, hy⟩ : ∃ y, l2[k]? = some y := ⟨_, List.getElem?_eq_getElem (by have := HN2.out; omega)⟩
        obtain ⟨g1, o1, cs1, rfl, _, _, hH1, hr1⟩ := (H1.out.keep HK.out (fun _ _ _ h => h)).get k x hx
        obtain ⟨g2, o2, cs2, rfl, _, _, hH2, hr2⟩ := (H2.out.keep HK.out (fun _ _ _ h => h)).get k y hy
        have HX := Lib.hid hx
        have HY := Lib.hid hy
        obtain ⟨x0, x1, x2, x3⟩ := x
        obtain ⟨y0, y1, y2, y3⟩ := y
        have e1 : cs1 = [.int .i64 x0, .int .i64 x1, .int .i64 x2, .int .i64 x3] := hH1
        have e2 : cs2 = [.int .i64 y0, .int .i64 y1, .int .i64 y2, .int .i64 y3] := hH2
        subst e1 e2
        have cg10 : wr.cell? ⟨g1, o1 + k * 4, none⟩ = some (.int .i64 x0) := by have := hr1 0 _ rfl; simpa [eMob] using this
        have cg11 : wr.cell? ⟨g1, o1 + k * 4 + 1, none⟩ = some (.int .i64 x1) := by have := hr1 1 _ rfl; simpa [eMob] using this
        have cg12 : wr.cell? ⟨g1, o1 + k * 4 + 2, none⟩ = some (.int .i64 x2) := by have := hr1 2 _ rfl; simpa [eMob] using this
        have cg13 : wr.cell? ⟨g1, o1 + k * 4 + 3, none⟩ = some (.int .i64 x3) := by have := hr1 3 _ rfl; simpa [eMob] using this
        have cg20 : wr.cell? ⟨g2, o2 + k * 4, none⟩ = some (.int .i64 y0) := by have := hr2 0 _ rfl; simpa [eMob] using this
        have cg21 : wr.cell? ⟨g2, o2 + k * 4 + 1, none⟩ = some (.int .i64 y1) := by have := hr2 1 _ rfl; simpa [eMob] using this
        have cg22 : wr.cell? ⟨g2, o2 + k * 4 + 2, none⟩ = some (.int .i64 y2) := by have := hr2 2 _ rfl; simpa [eMob] using this
        have cg23 : wr.cell? ⟨g2, o2 + k * 4 + 3, none⟩ = some (.int .i64 y3) := by have := hr2 3 _ rfl; simpa [eMob] using this
        clear hH1 hH2 hr1 hr2 hx hy
        by_cases hxy0 : x0 = y0
        · subst hxy0
          by_cases hxy1 : x1 = y1
          · subst hxy1
            by_cases hxy2 : x2 = y2
            · subst hxy2
              by_cases hxy3 : x3 = y3
              · subst hxy3
                go_wp2_with fail
                go_region
                all_goals
                  go_wp2_with fail
                  go_roundw
                  case rel =>
                    (repeat apply Exists.intro)
                    exact EqR.step HX.out HY.out HT.out HK.out.drew (by go_num)
                  case measure => simp [intOf]; omega
              · have hq : (x3 == y3) = false := by simpa using hxy3
                have HNE : Hid (l1 ≠ l2) := Lib.hid (ne_at HX.out HY.out (fun e => hxy3 (by simp only [Prod.mk.injEq] at e; simp only [e])))
                clear hxy3
                go_wp2_with fail
                go_region
                all_goals
                  go_wp2_with fail
                  go_ret
                  refine ⟨false, rfl, ⟨fun h => ?_, fun h => absurd h HNE.out⟩, HK.out.drew⟩
                  cases h
            · have hq : (x2 == y2) = false := by simpa using hxy2
              have HNE : Hid (l1 ≠ l2) := Lib.hid (ne_at HX.out HY.out (fun e => hxy2 (by simp only [Prod.mk.injEq] at e; simp only [e])))
              clear hxy2
              go_wp2_with fail
              go_region
              all_goals
                go_wp2_with fail
                go_ret
                refine ⟨false, rfl, ⟨fun h => ?_, fun h => absurd h HNE.out⟩, HK.out.drew⟩
                cases h
          · have hq : (x1 == y1) = false := by simpa using hxy1
            have HNE : Hid (l1 ≠ l2) := Lib.hid (ne_at HX.out HY.out (fun e => hxy1 (by simp only [Prod.mk.injEq] at e; simp only [e])))
            clear hxy1
            go_wp2_with fail
            go_region
            all_goals
              go_wp2_with fail
              go_ret
              refine ⟨false, rfl, ⟨fun h => ?_, fun h => absurd h HNE.out⟩, HK.out.drew⟩
              cases h
        · have hq : (x0 == y0) = false := by simpa using hxy0
          have HNE : Hid (l1 ≠ l2) := Lib.hid (ne_at HX.out HY.out (fun e => hxy0 (by simp only [Prod.mk.injEq] at e; simp only [e])))
          clear hxy0
          go_wp2_with fail
          go_region
          all_goals
            go_wp2_with fail
            go_ret
            refine ⟨false, rfl, ⟨fun h => ?_, fun h => absurd h HNE.out⟩, HK.out.drew⟩
            cases h
      · obtain rfl : k = n1 := by omega
        go_wp2
        go_ret
        refine ⟨true, rfl, ⟨fun _ => ?_, fun _ => rfl⟩, HK.out⟩
        have h9 := HT.out
        rwa [List.take_of_length_le (by have := HN1.out; omega), List.take_of_length_le (by have := HN2.out; omega)] at h9
  · have hne1 : ¬ (n1 : Int) = (n2 : Int) := by omega
    have hq : ((n1 : Int) != (n2 : Int)) = true := by simpa using hne1
    go_enter Try.func54, Try.ntmps54
    go_wp2
    go_ret
    refine ⟨false, rfl, ⟨fun h => ?_, fun h => ?_⟩, Keep.refl _ w⟩
    · cases h
    · rw [h] at HN1; have := HN1.out; have := HN2.out; omega

end Go.Proofs.Ytpefkellcigpkaa.Cd
/- codec: lists of Things, compared. -/
namespace Go.Proofs.Ytpefkellcigpkaa.Cd
open Go.RowKit Go.Proofs.Ytpefkellcigpkaa
set_option maxRecDepth 100000

theorem eqThings_any {w : World} {Pb Qb : Nat → Prop} {v1 v2 : Value} {l1 l2 : List (Int × Int × Int × Int × ByteArray)} (h1 : LAt eThing Pb w v1 l1) (h2 : LAt eThing Qb w v2 l2) : Calls Try.prog 53 #[v1, v2] w (EqA l1 l2 w) := by
  have H1 := Lib.hid h1
  have H2 := Lib.hid h2
  obtain ⟨a1, c1, rfl, hb1⟩ := h1.slice
  obtain ⟨a2, c2, rfl, hb2⟩ := h2.slice
  obtain ⟨n1, hn1⟩ : ∃ n, n = l1.length := ⟨_, rfl⟩
  obtain ⟨n2, hn2⟩ : ∃ n, n = l2.length := ⟨_, rfl⟩
  rw [← hn1] at H1 hb1 ⊢
  rw [← hn2] at H2 hb2 ⊢
  have HN1 := Lib.hid hn1
  have HN2 := Lib.hid hn2
  clear h1 h2 hn1 hn2
  by_cases hne : n1 = n2
  · subst hne
    go_enter Try.func53, Try.ntmps53
    go_wp2_with fail
    go_loopw [13] (fun i wr => EqR l1 l2 w i wr) (fun i _ => n1 - (intOf i).toNat)
    case atStart => exact ⟨0, by omega, rfl, Keep.refl _ w, by simp⟩
    case round =>
      obtain ⟨k, hk, rfl, hkk, ht⟩ := hrel.ex
      clear hrel
      have HK := Lib.hid hkk
      have HT := Lib.hid ht
      rw [← HN1.out] at hk
      clear hkk ht
      by_cases hlt : k < n1
      · have hlt1 : (k : Int) < (n1 : Int) := by omega
        obtain ⟨x, hx⟩ : ∃ x, l1[k]? = some x := ⟨_, List.getElem?_eq_getElem (by have := HN1.out; omega)⟩
        obtain ⟨y, hy⟩ : ∃ y, l2[k]? = some y := ⟨_, List.getElem?_eq_getElem (by have := HN2.out; omega)⟩
        obtain ⟨g1, o1, cs1, rfl, _, _, hH1, hr1⟩ := (H1.out.keep HK.out (fun _ _ _ h => h)).get k x hx
        obtain ⟨g2, o2, cs2, rfl, _, _, hH2, hr2⟩ := (H2.out.keep HK.out (fun _ _ _ h => h)).get k y hy
        have HX := Lib.hid hx
        have HY := Lib.hid hy
        obtain ⟨x0, x1, x2, x3, x4⟩ := x
        obtain ⟨y0, y1, y2, y3, y4⟩ := y
        have e1 : cs1 = [.int .i64 x0, .int .i64 x1, .int .i64 x2, .int .i64 x3, .string x4] := hH1
        have e2 : cs2 = [.int .i64 y0, .int .i64 y1, .int .i64 y2, .int .i64 y3, .string y4] := hH2
        subst e1 e2
        have cg10 : wr.cell? ⟨g1, o1 + k * 5, none⟩ = some (.int .i64 x0) := by have := hr1 0 _ rfl; simpa [eThing] using this
        have cg11 : wr.cell? ⟨g1, o1 + k * 5 + 1, none⟩ = some (.int .i64 x1) := by have := hr1 1 _ rfl; simpa [eThing] using this
        have cg12 : wr.cell? ⟨g1, o1 + k * 5 + 2, none⟩ = some (.int .i64 x2) := by have := hr1 2 _ rfl; simpa [eThing] using this
        have cg13 : wr.cell? ⟨g1, o1 + k * 5 + 3, none⟩ = some (.int .i64 x3) := by have := hr1 3 _ rfl; simpa [eThing] using this
        have cg14 : wr.cell? ⟨g1, o1 + k * 5 + 4, none⟩ = some (.string x4) := by have := hr1 4 _ rfl; simpa [eThing] using this
        have cg20 : wr.cell? ⟨g2, o2 + k * 5, none⟩ = some (.int .i64 y0) := by have := hr2 0 _ rfl; simpa [eThing] using this
        have cg21 : wr.cell? ⟨g2, o2 + k * 5 + 1, none⟩ = some (.int .i64 y1) := by have := hr2 1 _ rfl; simpa [eThing] using this
        have cg22 : wr.cell? ⟨g2, o2 + k * 5 + 2, none⟩ = some (.int .i64 y2) := by have := hr2 2 _ rfl; simpa [eThing] using this
        have cg23 : wr.cell? ⟨g2, o2 + k * 5 + 3, none⟩ = some (.int .i64 y3) := by have := hr2 3 _ rfl; simpa [eThing] using this
        have cg24 : wr.cell? ⟨g2, o2 + k * 5 + 4, none⟩ = some (.string y4) := by have := hr2 4 _ rfl; simpa [eThing] using this
        clear hH1 hH2 hr1 hr2 hx hy
        by_cases hxy0 : x0 = y0
        · subst hxy0
          by_cases hxy1 : x1 = y1
          · subst hxy1
            by_cases hxy2 : x2 = y2
            · subst hxy2
              by_cases hxy3 : x3 = y3
              · subst hxy3
                by_cases hxy4 : x4 = y4
                · subst hxy4
                  go_wp2_with fail
                  go_region
                  all_goals
                    go_wp2_with fail
                    go_roundw
                    case rel =>
                      (repeat apply Exists.intro)
                      exact EqR.step HX.out HY.out HT.out HK.out.drew (by go_num)
                    case measure => simp [intOf]; omega
                · have hq : (x4.toList == y4.toList) = false := str_ne hxy4
                  have HNE : Hid (l1 ≠ l2) := Lib.hid (ne_at HX.out HY.out (fun e => hxy4 (by simp only [Prod.mk.injEq] at e; simp only [e])))
                  clear hxy4
                  go_wp2_with fail
                  go_region
                  all_goals
                    go_wp2_with fail
                    go_ret
                    refine ⟨false, rfl, ⟨fun h => ?_, fun h => absurd h HNE.out⟩, HK.out.drew⟩
                    cases h
              · have hq : (x3 == y3) = false := by simpa using hxy3
                have HNE : Hid (l1 ≠ l2) := Lib.hid (ne_at HX.out HY.out (fun e => hxy3 (by simp only [Prod.mk.injEq] at e; simp only [e])))
                clear hxy3
                go_wp2_with fail
                go_region
                all_goals
                  go_wp2_with fail
                  go_ret
                  refine ⟨false, rfl, ⟨fun h => ?_, fun h => absurd h HNE.out⟩, HK.out.drew⟩
                  cases h
            · have hq : (x2 == y2) = false := by simpa using hxy2
              have HNE : Hid (l1 ≠ l2) := Lib.hid (ne_at HX.out HY.out (fun e => hxy2 (by simp only [Prod.mk.injEq] at e; simp only [e])))
              clear hxy2
              go_wp2_with fail
              go_region
              all_goals
                go_wp2_with fail
                go_ret
                refine ⟨false, rfl, ⟨fun h => ?_, fun h => absurd h HNE.out⟩, HK.out.drew⟩
                cases h
          · have hq : (x1 == y1) = false := by simpa using hxy1
            have HNE : Hid (l1 ≠ l2) := Lib.hid (ne_at HX.out HY.out (fun e => hxy1 (by simp only [Prod.mk.injEq] at e; simp only [e])))
            clear hxy1
            go_wp2_with fail
            go_region
            all_goals
              go_wp2_with fail
              go_ret
              refine ⟨false, rfl, ⟨fun h => ?_, fun h => absurd h HNE.out⟩, HK.out.drew⟩
              cases h
        · have hq : (x0 == y0) = false := by simpa using hxy0
          have HNE : Hid (l1 ≠ l2) := Lib.hid (ne_at HX.out HY.out (fun e => hxy0 (by simp only [Prod.mk.injEq] at e; simp only [e])))
          clear hxy0
          go_wp2_with fail
          go_region
          all_goals
            go_wp2_with fail
            go_ret
            refine ⟨false, rfl, ⟨fun h => ?_, fun h => absurd h HNE.out⟩, HK.out.drew⟩
            cases h
      · obtain rfl : k = n1 := by omega
        go_wp2
        go_ret
        refine ⟨true, rfl, ⟨fun _ => ?_, fun _ => rfl⟩, HK.out⟩
        have h9 := HT.out
        rwa [List.take_of_length_le (by have := HN1.out; omega), List.take_of_length_le (by have := HN2.out; omega)] at h9
  · have hne1 : ¬ (n1 : Int) = (n2 : Int) := by omega
    have hq : ((n1 : Int) != (n2 : Int)) = true := by simpa using hne1
    go_enter Try.func53, Try.ntmps53
    go_wp2
    go_ret
    refine ⟨false, rfl, ⟨fun h => ?_, fun h => ?_⟩, Keep.refl _ w⟩
    · cases h
    · rw [h] at HN1; have := HN1.out; have := HN2.out; omega

end Go.Proofs.Ytpefkellcigpkaa.Cd
/- codec: lists of Lots, compared. -/
namespace Go.Proofs.Ytpefkellcigpkaa.Cd
open Go.RowKit Go.Proofs.Ytpefkellcigpkaa
set_option maxRecDepth 100000

theorem eqLots_any {w : World} {Pb Qb : Nat → Prop} {v1 v2 : Value} {l1 l2 : List (Int × Int × ByteArray × Int × Int × ByteArray × Int)} (h1 : LAt eLot Pb w v1 l1) (h2 : LAt eLot Qb w v2 l2) : Calls Try.prog 57 #[v1, v2] w (EqA l1 l2 w) := by
  have H1 := Lib.hid h1
  have H2 := Lib.hid h2
  obtain ⟨a1, c1, rfl, hb1⟩ := h1.slice
  obtain ⟨a2, c2, rfl, hb2⟩ := h2.slice
  obtain ⟨n1, hn1⟩ : ∃ n, n = l1.length := ⟨_, rfl⟩
  obtain ⟨n2, hn2⟩ : ∃ n, n = l2.length := ⟨_, rfl⟩
  rw [← hn1] at H1 hb1 ⊢
  rw [← hn2] at H2 hb2 ⊢
  have HN1 := Lib.hid hn1
  have HN2 := Lib.hid hn2
  clear h1 h2 hn1 hn2
  by_cases hne : n1 = n2
  · subst hne
    go_enter Try.func57, Try.ntmps57
    go_wp2_with fail
    go_loopw [13] (fun i wr => EqR l1 l2 w i wr) (fun i _ => n1 - (intOf i).toNat)
    case atStart => exact ⟨0, by omega, rfl, Keep.refl _ w, by simp⟩
    case round =>
      obtain ⟨k, hk, rfl, hkk, ht⟩ := hrel.ex
      clear hrel
      have HK := Lib.hid hkk
      have HT := Lib.hid ht
      rw [← HN1.out] at hk
      clear hkk ht
      by_cases hlt : k < n1
      · have hlt1 : (k : Int) < (n1 : Int) := by omega
        obtain ⟨x, hx⟩ : ∃ x, l1[k]? = some x := ⟨_, List.getElem?_eq_getElem (by have := HN1.out; omega)⟩
        obtain ⟨y, hy⟩ : ∃ y, l2[k]? = some y := ⟨_, List.getElem?_eq_getElem (by have := HN2.out; omega)⟩
        obtain ⟨g1, o1, cs1, rfl, _, _, hH1, hr1⟩ := (H1.out.keep HK.out (fun _ _ _ h => h)).get k x hx
        obtain ⟨g2, o2, cs2, rfl, _, _, hH2, hr2⟩ := (H2.out.keep HK.out (fun _ _ _ h => h)).get k y hy
        have HX := Lib.hid hx
        have HY := Lib.hid hy
        obtain ⟨x0, x1, x2, x3, x4, x5, x6⟩ := x
        obtain ⟨y0, y1, y2, y3, y4, y5, y6⟩ := y
        have e1 : cs1 = [.int .i64 x0, .int .i64 x1, .string x2, .int .i64 x3, .int .i64 x4, .string x5, .int .i64 x6] := hH1
        have e2 : cs2 = [.int .i64 y0, .int .i64 y1, .string y2, .int .i64 y3, .int .i64 y4, .string y5, .int .i64 y6] := hH2
        subst e1 e2
        have cg10 : wr.cell? ⟨g1, o1 + k * 7, none⟩ = some (.int .i64 x0) := by have := hr1 0 _ rfl; simpa [eLot] using this
        have cg11 : wr.cell? ⟨g1, o1 + k * 7 + 1, none⟩ = some (.int .i64 x1) := by have := hr1 1 _ rfl; simpa [eLot] using this
        have cg12 : wr.cell? ⟨g1, o1 + k * 7 + 2, none⟩ = some (.string x2) := by have := hr1 2 _ rfl; simpa [eLot] using this
        have cg13 : wr.cell? ⟨g1, o1 + k * 7 + 3, none⟩ = some (.int .i64 x3) := by have := hr1 3 _ rfl; simpa [eLot] using this
        have cg14 : wr.cell? ⟨g1, o1 + k * 7 + 4, none⟩ = some (.int .i64 x4) := by have := hr1 4 _ rfl; simpa [eLot] using this
        have cg15 : wr.cell? ⟨g1, o1 + k * 7 + 5, none⟩ = some (.string x5) := by have := hr1 5 _ rfl; simpa [eLot] using this
        have cg16 : wr.cell? ⟨g1, o1 + k * 7 + 6, none⟩ = some (.int .i64 x6) := by have := hr1 6 _ rfl; simpa [eLot] using this
        have cg20 : wr.cell? ⟨g2, o2 + k * 7, none⟩ = some (.int .i64 y0) := by have := hr2 0 _ rfl; simpa [eLot] using this
        have cg21 : wr.cell? ⟨g2, o2 + k * 7 + 1, none⟩ = some (.int .i64 y1) := by have := hr2 1 _ rfl; simpa [eLot] using this
        have cg22 : wr.cell? ⟨g2, o2 + k * 7 + 2, none⟩ = some (.string y2) := by have := hr2 2 _ rfl; simpa [eLot] using this
        have cg23 : wr.cell? ⟨g2, o2 + k * 7 + 3, none⟩ = some (.int .i64 y3) := by have := hr2 3 _ rfl; simpa [eLot] using this
        have cg24 : wr.cell? ⟨g2, o2 + k * 7 + 4, none⟩ = some (.int .i64 y4) := by have := hr2 4 _ rfl; simpa [eLot] using this
        have cg25 : wr.cell? ⟨g2, o2 + k * 7 + 5, none⟩ = some (.string y5) := by have := hr2 5 _ rfl; simpa [eLot] using this
        have cg26 : wr.cell? ⟨g2, o2 + k * 7 + 6, none⟩ = some (.int .i64 y6) := by have := hr2 6 _ rfl; simpa [eLot] using this
        clear hH1 hH2 hr1 hr2 hx hy
        by_cases hxy0 : x0 = y0
        · subst hxy0
          by_cases hxy1 : x1 = y1
          · subst hxy1
            by_cases hxy2 : x2 = y2
            · subst hxy2
              by_cases hxy3 : x3 = y3
              · subst hxy3
                by_cases hxy4 : x4 = y4
                · subst hxy4
                  by_cases hxy5 : x5 = y5
                  · subst hxy5
                    by_cases hxy6 : x6 = y6
                    · subst hxy6
                      go_wp2_with fail
                      go_region
                      all_goals
                        go_wp2_with fail
                        go_roundw
                        case rel =>
                          (repeat apply Exists.intro)
                          exact EqR.step HX.out HY.out HT.out HK.out.drew (by go_num)
                        case measure => simp [intOf]; omega
                    · have hq : (x6 == y6) = false := by simpa using hxy6
                      have HNE : Hid (l1 ≠ l2) := Lib.hid (ne_at HX.out HY.out (fun e => hxy6 (by simp only [Prod.mk.injEq] at e; simp only [e])))
                      clear hxy6
                      go_wp2_with fail
                      go_region
                      all_goals
                        go_wp2_with fail
                        go_ret
                        refine ⟨false, rfl, ⟨fun h => ?_, fun h => absurd h HNE.out⟩, HK.out.drew⟩
                        cases h
                  · have hq : (x5.toList == y5.toList) = false := str_ne hxy5
                    have HNE : Hid (l1 ≠ l2) := Lib.hid (ne_at HX.out HY.out (fun e => hxy5 (by simp only [Prod.mk.injEq] at e; simp only [e])))
                    clear hxy5
                    go_wp2_with fail
                    go_region
                    all_goals
                      go_wp2_with fail
                      go_ret
                      refine ⟨false, rfl, ⟨fun h => ?_, fun h => absurd h HNE.out⟩, HK.out.drew⟩
                      cases h
                · have hq : (x4 == y4) = false := by simpa using hxy4
                  have HNE : Hid (l1 ≠ l2) := Lib.hid (ne_at HX.out HY.out (fun e => hxy4 (by simp only [Prod.mk.injEq] at e; simp only [e])))
                  clear hxy4
                  go_wp2_with fail
                  go_region
                  all_goals
                    go_wp2_with fail
                    go_ret
                    refine ⟨false, rfl, ⟨fun h => ?_, fun h => absurd h HNE.out⟩, HK.out.drew⟩
                    cases h
              · have hq : (x3 == y3) = false := by simpa using hxy3
                have HNE : Hid (l1 ≠ l2) := Lib.hid (ne_at HX.out HY.out (fun e => hxy3 (by simp only [Prod.mk.injEq] at e; simp only [e])))
                clear hxy3
                go_wp2_with fail
                go_region
                all_goals
                  go_wp2_with fail
                  go_ret
                  refine ⟨false, rfl, ⟨fun h => ?_, fun h => absurd h HNE.out⟩, HK.out.drew⟩
                  cases h
            · have hq : (x2.toList == y2.toList) = false := str_ne hxy2
              have HNE : Hid (l1 ≠ l2) := Lib.hid (ne_at HX.out HY.out (fun e => hxy2 (by simp only [Prod.mk.injEq] at e; simp only [e])))
              clear hxy2
              go_wp2_with fail
              go_region
              all_goals
                go_wp2_with fail
                go_ret
                refine ⟨false, rfl, ⟨fun h => ?_, fun h => absurd h HNE.out⟩, HK.out.drew⟩
                cases h
          · have hq : (x1 == y1) = false := by simpa using hxy1
            have HNE : Hid (l1 ≠ l2) := Lib.hid (ne_at HX.out HY.out (fun e => hxy1 (by simp only [Prod.mk.injEq] at e; simp only [e])))
            clear hxy1
            go_wp2_with fail
            go_region
            all_goals
              go_wp2_with fail
              go_ret
              refine ⟨false, rfl, ⟨fun h => ?_, fun h => absurd h HNE.out⟩, HK.out.drew⟩
              cases h
        · have hq : (x0 == y0) = false := by simpa using hxy0
          have HNE : Hid (l1 ≠ l2) := Lib.hid (ne_at HX.out HY.out (fun e => hxy0 (by simp only [Prod.mk.injEq] at e; simp only [e])))
          clear hxy0
          go_wp2_with fail
          go_region
          all_goals
            go_wp2_with fail
            go_ret
            refine ⟨false, rfl, ⟨fun h => ?_, fun h => absurd h HNE.out⟩, HK.out.drew⟩
            cases h
      · obtain rfl : k = n1 := by omega
        go_wp2
        go_ret
        refine ⟨true, rfl, ⟨fun _ => ?_, fun _ => rfl⟩, HK.out⟩
        have h9 := HT.out
        rwa [List.take_of_length_le (by have := HN1.out; omega), List.take_of_length_le (by have := HN2.out; omega)] at h9
  · have hne1 : ¬ (n1 : Int) = (n2 : Int) := by omega
    have hq : ((n1 : Int) != (n2 : Int)) = true := by simpa using hne1
    go_enter Try.func57, Try.ntmps57
    go_wp2
    go_ret
    refine ⟨false, rfl, ⟨fun h => ?_, fun h => ?_⟩, Keep.refl _ w⟩
    · cases h
    · rw [h] at HN1; have := HN1.out; have := HN2.out; omega

end Go.Proofs.Ytpefkellcigpkaa.Cd
