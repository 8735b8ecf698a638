/- World files: the reference's line of a shop (made by tools/genrs.py). -/
import Derived.Test.YtcodbomgodkcmaaGreatDoorDbR
import Derived.Shelf.Abstract
namespace Go.Proofs.YtcodbomgodkcmaaGreatDoor.Wd
open Go.RowKit Go.Maps Go.Proofs.YtcodbomgodkcmaaGreatDoor Go.Proofs.YtcodbomgodkcmaaGreatDoor.Lin Go.Shelf
set_option maxRecDepth 100000

theorem Tryz.infoShop : (Tryz.prog.info? 88).map (fun i => (i.zero, i.size, i.bytes)) = some (some (.agg #[.int .i64 0, .int .i64 0, .slice none 0 0]), 3, 40) := by kernel_rfl

set_option maxHeartbeats 16000000 in
theorem refLineShop_n {w : World} {B : Nat → Prop} {d : Nat} {D : DbM} {v1 v2 v3 v4 v5 v6 : Value} {rr : List (RecM × Value)} {ss : List (ShopM × Value)} (h : DbV B w d D v1 v2 v3 v4 v5 v6 rr ss) {g off cap : Nat} {l : List ByteArray} (hw : WsAt w g off cap l) (hg : ¬ B g)
    (hl2 : l.length ≤ 1000000) (h0 : atW l 0 = wShop) (hn : D.shops.length ≤ 1000000) (hnf : numsF 1 1000 (l.drop 3) = none) (r1 : 4 ≤ l.length) (hs11 : l.length ≤ 11) :
    Calls Tryz.prog 22 #[.pointer (some ⟨d, 0, none⟩), .slice (some ⟨g, off, none⟩) l.length cap] w (LineA B w d D (shopF l)) := by
  have HV := Lib.hid h
  have HW : Hid (∀ w9, Keep (fun b => B b) w w9 → WsAt w9 g off cap l) := Lib.hid (fun w9 k => hw.keep k hg)
  obtain ⟨_, _, hv, hc1, hc2⟩ := hw.row.slice
  simp only [Value.slice.injEq] at hv
  obtain ⟨rfl, -, rfl⟩ := hv
  unfold maxLen at hc2
  obtain ⟨n1, ok1, e1⟩ : ∃ n ok, numF (atW l 1) 1 1000 = (n, ok) := ⟨_, _, rfl⟩
  have C1 := Lib.hid (fun w9 : World => refNum_any (w := w9) (atW l 1) 1 1000)
  rw [e1] at C1
  have E1 := Lib.hid e1
  obtain ⟨n2, ok2, e2⟩ : ∃ n ok, numF (atW l 2) 0 1073741824 = (n, ok) := ⟨_, _, rfl⟩
  have C2 := Lib.hid (fun w9 : World => refNum_any (w := w9) (atW l 2) 0 1073741824)
  rw [e2] at C2
  have E2 := Lib.hid e2
  have HNF := Lib.hid hnf
  have CN0 : Hid (∀ w9 : World, Keep (fun b => B b) w w9 → Calls Tryz.prog 78 #[.slice (some ⟨g, off + 3, none⟩) (l.length - 3) (cap - 3), .int .i64 1, .int .i64 1000] w9 (NumsA (numsF 1 1000 (l.drop 3)) w9)) := Lib.hid (fun w9 k9 => refNums_any (by have := (HW.out w9 k9).drop0 (k := 3) (by omega); exact this) (by rw [List.length_drop]; omega) 1 1000)
  have CN : Hid (∀ w9 : World, Keep (fun b => B b) w w9 → Calls Tryz.prog 78 #[.slice (some ⟨g, off + 3, none⟩) (l.length - 3) (cap - 3), .int .i64 1, .int .i64 1000] w9 fun e w' => ∃ v, e = .returned (.tuple #[v, .bool false]) ∧ Row w' 3 1 v ([] : List Int).length (icells []) ∧ Keep (fun _ => False) w9 w') := Lib.hid (fun w9 k9 => (CN0.out w9 k9).mono fun e w' hh => by
    rcases hh with ⟨l', v, hl', _⟩ | ⟨_, he, hk⟩
    · rw [hnf] at hl'; cases hl'
    · exact ⟨_, he, Row.nil _ _ _, hk⟩)
  have hnsl : ([] : List Int).length ≤ 1000000 := by simp
  have k0 : Keep (fun b => B b) w w := Keep.refl _ _
  have x0 := (HW.out w k0).cell (i := 0) (by omega)
  rw [h0, Nat.add_zero] at x0
  have x1 := (HW.out w k0).cell (i := 1) (by omega)
  have x2 := (HW.out w k0).cell (i := 2) (by omega)
  obtain ⟨a1, c1, hv4, hcr, hcr2⟩ := h.l6.slice
  have hrl : ss.length = D.shops.length := by rw [← h.fs, List.length_map]
  rw [hrl] at hv4 hcr
  subst hv4
  have HRL := Lib.hid hrl
  unfold maxLen at hcr2
  obtain ⟨i0, hi0, hz0, hz1, hz2⟩ := info_parts Tryz.infoShop
  obtain ⟨n, hnl⟩ : ∃ n, n = l.length := ⟨_, rfl⟩
  rw [← hnl] at hl2 hc1 CN r1 hs11 ⊢
  have HNL := Lib.hid hnl
  have d2 : decide ((n : Int) < 2) = false := by rw [decide_eq_false_iff_not]; omega
  have d2b : decide ((n : Int) < 3) = false := by rw [decide_eq_false_iff_not]; omega
  have d2c : decide (11 < (n : Int)) = false := by rw [decide_eq_false_iff_not]; omega
  have d0 : (0 : Int) < (n : Int) := by omega
  have d1 : (1 : Int) < (n : Int) := by omega
  have d3 : (3 : Int) ≤ (n : Int) := by omega
  have d4 : (n : Int) ≤ (cap : Int) := by omega
  have d5 : decide (3 ≤ (n : Int)) = true := by rw [decide_eq_true_eq]; omega
  have d7 : decide (3 ≤ n) = true := by rw [decide_eq_true_eq]; omega
  clear hnl
  clear h hw k0 h0 CN0 hnf hrl e1 e2
  go_enter Tryz.func22, Tryz.ntmps22
  go_wp2_with (first | (go_at_call 74; (with_reducible refine (C1.out _).mono ?_); rintro e w' ⟨rfl, rfl⟩) | (go_at_call 74; (with_reducible refine (C2.out _).mono ?_); rintro e w' ⟨rfl, rfl⟩) | (go_at_call 78; (with_reducible refine (CN.out _ (Keep.refl _ _)).mono ?_); rintro e w3 ⟨va, rfl, r3, k3⟩; have HR3 := Lib.hid r3; have HK3 := Lib.hid k3; clear r3 k3))
  all_goals try (exfalso; omega)
  obtain ⟨ae, ce, rfl, hce, hce2⟩ := HR3.out.slice
  have HDB := Lib.hid (HV.out.keep HK3.out (fun _ _ _ h => h))
  have p0 : w3.cell? ⟨d, 5, none⟩ = some (.slice a1 D.shops.length c1) := (cell_of_row w3 d 5 _ _ _ HDB.out.blk).trans rfl
  have hds : d < w3.heap.size := lt_of_block HDB.out.blk
  have CS : Hid (Calls Tryz.prog 79 #[.slice ae ([] : List Int).length ce] w3.drew fun e w' => ∃ a c, e = .returned (.slice a (sortI ([] : List Int)).length c) ∧ Row w' 3 1 (.slice a (sortI ([] : List Int)).length c) (sortI ([] : List Int)).length (icells (sortI ([] : List Int))) ∧ (∀ b, (Value.slice a (sortI ([] : List Int)).length c).ownBlock = some b → w3.heap.size ≤ b) ∧ Keep (fun _ => False) w3 w') := Lib.hid ((refSorted_any (w := w3.drew) HR3.out.drew.seen hnsl).mono fun e w' hh => by
    obtain ⟨M, v', he, hso, hr, ho, hk⟩ := hh
    obtain rfl := hso.sortI
    obtain ⟨a, c, rfl, _, _⟩ := hr.slice
    exact ⟨a, c, he, hr, ho, ((Keep.refl _ w3).drew).trans hk (fun _ h => h.elim)⟩)
  generalize hsn : (sortI ([] : List Int)).length = sn at CS
  have HSN := Lib.hid hsn
  clear hsn
  go_region_law (first
    | (refine step_call1 (v0 := .slice ae ([] : List Int).length ce) rfl rfl (enters_of Tryz.func79 (by kernel_rfl) rfl) (by simp [go_sem]) ?_; refine CS.out.mono ?_; rintro e w5 ⟨a5, c5, rfl, r5, o5, k5⟩; refine ⟨_, rfl, ?_⟩; have HR5 := Lib.hid r5; have HO5 := Lib.hid o5; have HK5 := Lib.hid k5; have p5 : w5.cell? ⟨d, 5, none⟩ = some (.slice a1 D.shops.length c1) := (k5.cell hds (fun h => h) _).trans p0; have hds5 : d < w5.heap.size := Nat.lt_of_lt_of_le hds k5.size; have HD5 := Lib.hid (HDB.out.keep k5 (fun _ _ _ h => h)); obtain ⟨X9, hX9⟩ : ∃ X9, X9 = w5.alloc (.cells (shopC (⟨n1, n2, sortI ([] : List Int)⟩, .slice a5 sn c5)).toArray 88) := ⟨_, rfl⟩; have HKX : Hid (Keep (fun _ => False) w5 X9) := Lib.hid (by rw [hX9]; exact (Keep.refl _ w5).alloc _); have HDX := Lib.hid (HD5.out.keep HKX.out (fun _ _ _ h => h)); have HRX : Hid (Row X9 88 3 (.slice (some ⟨w5.heap.size, 0, none⟩) 1 1) 1 (shopC (⟨n1, n2, sortI ([] : List Int)⟩, .slice a5 sn c5))) := Lib.hid (by rw [hX9]; exact Row.made (w := w5) (shopC (⟨n1, n2, sortI ([] : List Int)⟩, .slice a5 sn c5)).toArray w5.heap.size 1 rfl (by simp [maxLen]) (by simp [shopC])); have HL4 : Hid (Row X9 88 3 (.slice a1 D.shops.length c1) D.shops.length (flat shopC ss)) := Lib.hid (by have := HDX.out.l6; unfold Rec at this; rwa [HRL.out] at this); have HXE : Hid (w5.alloc (.cells #[.int .i64 n1, .int .i64 n2, .slice a5 sn c5] 88) = X9) := Lib.hid hX9.symm; clear r5 o5 k5 hX9)
    | (rw [HXE.out]; refine step_append_row rfl (.tmp 348) (.tmp 354) rfl Tryz.underlying48 hi0 hz0 hz1 hz2 rfl (by simp [go_sem]) HL4.out (by simp [go_sem]) (HRX.out.src Tryz.underlying48 (by simp [shopC, Value.oneCell'])) (by unfold maxLen; omega) (by omega) ?_; intro v9 w9 r1 r2 r3 _; obtain ⟨a9, c9, rfl, _, _⟩ := r1.slice; have nd : ¬ (Value.slice a1 D.shops.length c1).ownBlock = some d := fun e => (by obtain ⟨cs, f, hb⟩ := HL4.out.type e; exact ty_ne HDX.out.blk hb (by decide) rfl); have hb9 : w9.heap[d]? = some (.cells #[v1, v2, v3, v4, v5, .slice a1 D.shops.length c1] 50 (0, 0)) := (r2.block d (lt_of_block HDX.out.blk) nd).trans HDX.out.blk; have f9 : w9.frozen? ⟨d, 5, none⟩ = false := frozen_of_row _ _ _ _ _ hb9; have c9' : w9.cell? ⟨d, 5, none⟩ = some (.slice a1 D.shops.length c1) := (cell_of_row _ _ _ _ _ _ hb9).trans rfl; have R1 := Lib.hid r1; have R2 := Lib.hid r2; have R3 := Lib.hid r3; clear r1 r2 r3 hb9 nd))
  all_goals go_simp
  all_goals
    have HKL : Hid (Keep (fun b => B b) w (w9.setCell ⟨d, 5, none⟩ (.slice a9 (D.shops.length + 1) c9))) := Lib.hid (Keep.setCell ((((((HK3.out.trans HK5.out (fun _ h => h.elim)).trans HKX.out (fun _ h => h.elim)).mono (fun _ _ h => h.elim)).trans R2.out (fun b hb => .inl (HDX.out.o6 b hb))))) _ _ (.inl HDX.out.base.1))
    cases ok1 with
    | false =>
      go_wp2
      all_goals go_ret
      all_goals
        exact .inr ⟨by have hnl := HNL.out; unfold shopF gMax; rw [E1.out, E2.out, HNF.out]; split <;> simp_all, rfl, HKL.out⟩
    | true =>
      cases ok2 with
      | false =>
        go_wp2
        all_goals go_ret
        all_goals
          exact .inr ⟨by have hnl := HNL.out; unfold shopF gMax; rw [E1.out, E2.out, HNF.out]; split <;> simp_all, rfl, HKL.out⟩
      | true =>
        go_wp2
        all_goals go_ret
        all_goals
          exact .inr ⟨by have hnl := HNL.out; unfold shopF gMax; rw [E1.out, E2.out, HNF.out]; split <;> simp_all, rfl, HKL.out⟩

set_option maxHeartbeats 16000000 in
theorem refLineShop_s {w : World} {B : Nat → Prop} {d : Nat} {D : DbM} {v1 v2 v3 v4 v5 v6 : Value} {rr : List (RecM × Value)} {ss : List (ShopM × Value)} (h : DbV B w d D v1 v2 v3 v4 v5 v6 rr ss) {g off cap : Nat} {l : List ByteArray} (hw : WsAt w g off cap l) (hg : ¬ B g)
    (hl2 : l.length ≤ 1000000) (h0 : atW l 0 = wShop) (hn : D.shops.length ≤ 1000000) {ns : List Int} (hnf : numsF 1 1000 (l.drop 3) = some ns) (r1 : 4 ≤ l.length) (hs11 : l.length ≤ 11) :
    Calls Tryz.prog 22 #[.pointer (some ⟨d, 0, none⟩), .slice (some ⟨g, off, none⟩) l.length cap] w (LineA B w d D (shopF l)) := by
  have HV := Lib.hid h
  have HW : Hid (∀ w9, Keep (fun b => B b) w w9 → WsAt w9 g off cap l) := Lib.hid (fun w9 k => hw.keep k hg)
  obtain ⟨_, _, hv, hc1, hc2⟩ := hw.row.slice
  simp only [Value.slice.injEq] at hv
  obtain ⟨rfl, -, rfl⟩ := hv
  unfold maxLen at hc2
  obtain ⟨n1, ok1, e1⟩ : ∃ n ok, numF (atW l 1) 1 1000 = (n, ok) := ⟨_, _, rfl⟩
  have C1 := Lib.hid (fun w9 : World => refNum_any (w := w9) (atW l 1) 1 1000)
  rw [e1] at C1
  have E1 := Lib.hid e1
  obtain ⟨n2, ok2, e2⟩ : ∃ n ok, numF (atW l 2) 0 1073741824 = (n, ok) := ⟨_, _, rfl⟩
  have C2 := Lib.hid (fun w9 : World => refNum_any (w := w9) (atW l 2) 0 1073741824)
  rw [e2] at C2
  have E2 := Lib.hid e2
  have HNF := Lib.hid hnf
  have CN0 : Hid (∀ w9 : World, Keep (fun b => B b) w w9 → Calls Tryz.prog 78 #[.slice (some ⟨g, off + 3, none⟩) (l.length - 3) (cap - 3), .int .i64 1, .int .i64 1000] w9 (NumsA (numsF 1 1000 (l.drop 3)) w9)) := Lib.hid (fun w9 k9 => refNums_any (by have := (HW.out w9 k9).drop0 (k := 3) (by omega); exact this) (by rw [List.length_drop]; omega) 1 1000)
  have CN : Hid (∀ w9 : World, Keep (fun b => B b) w w9 → Calls Tryz.prog 78 #[.slice (some ⟨g, off + 3, none⟩) (l.length - 3) (cap - 3), .int .i64 1, .int .i64 1000] w9 fun e w' => ∃ v, e = .returned (.tuple #[v, .bool true]) ∧ Row w' 3 1 v ns.length (icells ns) ∧ Keep (fun _ => False) w9 w') := Lib.hid (fun w9 k9 => (CN0.out w9 k9).mono fun e w' hh => by
    rcases hh with ⟨l', v, hl', he, hr, ho, hk⟩ | ⟨hno, _⟩
    · rw [hnf] at hl'; cases hl'; exact ⟨v, he, hr, hk⟩
    · rw [hnf] at hno; cases hno)
  have hnsl : ns.length ≤ 1000000 := by rw [numsF_len _ _ _ _ hnf, List.length_drop]; omega
  have k0 : Keep (fun b => B b) w w := Keep.refl _ _
  have x0 := (HW.out w k0).cell (i := 0) (by omega)
  rw [h0, Nat.add_zero] at x0
  have x1 := (HW.out w k0).cell (i := 1) (by omega)
  have x2 := (HW.out w k0).cell (i := 2) (by omega)
  obtain ⟨a1, c1, hv4, hcr, hcr2⟩ := h.l6.slice
  have hrl : ss.length = D.shops.length := by rw [← h.fs, List.length_map]
  rw [hrl] at hv4 hcr
  subst hv4
  have HRL := Lib.hid hrl
  unfold maxLen at hcr2
  obtain ⟨i0, hi0, hz0, hz1, hz2⟩ := info_parts Tryz.infoShop
  obtain ⟨n, hnl⟩ : ∃ n, n = l.length := ⟨_, rfl⟩
  rw [← hnl] at hl2 hc1 CN r1 hs11 ⊢
  have HNL := Lib.hid hnl
  have d2 : decide ((n : Int) < 2) = false := by rw [decide_eq_false_iff_not]; omega
  have d2b : decide ((n : Int) < 3) = false := by rw [decide_eq_false_iff_not]; omega
  have d2c : decide (11 < (n : Int)) = false := by rw [decide_eq_false_iff_not]; omega
  have d0 : (0 : Int) < (n : Int) := by omega
  have d1 : (1 : Int) < (n : Int) := by omega
  have d3 : (3 : Int) ≤ (n : Int) := by omega
  have d4 : (n : Int) ≤ (cap : Int) := by omega
  have d5 : decide (3 ≤ (n : Int)) = true := by rw [decide_eq_true_eq]; omega
  have d7 : decide (3 ≤ n) = true := by rw [decide_eq_true_eq]; omega
  clear hnl
  clear h hw k0 h0 CN0 hnf hrl e1 e2
  go_enter Tryz.func22, Tryz.ntmps22
  go_wp2_with (first | (go_at_call 74; (with_reducible refine (C1.out _).mono ?_); rintro e w' ⟨rfl, rfl⟩) | (go_at_call 74; (with_reducible refine (C2.out _).mono ?_); rintro e w' ⟨rfl, rfl⟩) | (go_at_call 78; (with_reducible refine (CN.out _ (Keep.refl _ _)).mono ?_); rintro e w3 ⟨va, rfl, r3, k3⟩; have HR3 := Lib.hid r3; have HK3 := Lib.hid k3; clear r3 k3))
  all_goals try (exfalso; omega)
  obtain ⟨ae, ce, rfl, hce, hce2⟩ := HR3.out.slice
  have HDB := Lib.hid (HV.out.keep HK3.out (fun _ _ _ h => h))
  have p0 : w3.cell? ⟨d, 5, none⟩ = some (.slice a1 D.shops.length c1) := (cell_of_row w3 d 5 _ _ _ HDB.out.blk).trans rfl
  have hds : d < w3.heap.size := lt_of_block HDB.out.blk
  have CS : Hid (Calls Tryz.prog 79 #[.slice ae ns.length ce] w3.drew fun e w' => ∃ a c, e = .returned (.slice a (sortI ns).length c) ∧ Row w' 3 1 (.slice a (sortI ns).length c) (sortI ns).length (icells (sortI ns)) ∧ (∀ b, (Value.slice a (sortI ns).length c).ownBlock = some b → w3.heap.size ≤ b) ∧ Keep (fun _ => False) w3 w') := Lib.hid ((refSorted_any (w := w3.drew) HR3.out.drew.seen hnsl).mono fun e w' hh => by
    obtain ⟨M, v', he, hso, hr, ho, hk⟩ := hh
    obtain rfl := hso.sortI
    obtain ⟨a, c, rfl, _, _⟩ := hr.slice
    exact ⟨a, c, he, hr, ho, ((Keep.refl _ w3).drew).trans hk (fun _ h => h.elim)⟩)
  generalize hsn : (sortI ns).length = sn at CS
  have HSN := Lib.hid hsn
  clear hsn
  go_region_law (first
    | (refine step_call1 (v0 := .slice ae ns.length ce) rfl rfl (enters_of Tryz.func79 (by kernel_rfl) rfl) (by simp [go_sem]) ?_; refine CS.out.mono ?_; rintro e w5 ⟨a5, c5, rfl, r5, o5, k5⟩; refine ⟨_, rfl, ?_⟩; have HR5 := Lib.hid r5; have HO5 := Lib.hid o5; have HK5 := Lib.hid k5; have p5 : w5.cell? ⟨d, 5, none⟩ = some (.slice a1 D.shops.length c1) := (k5.cell hds (fun h => h) _).trans p0; have hds5 : d < w5.heap.size := Nat.lt_of_lt_of_le hds k5.size; have HD5 := Lib.hid (HDB.out.keep k5 (fun _ _ _ h => h)); obtain ⟨X9, hX9⟩ : ∃ X9, X9 = w5.alloc (.cells (shopC (⟨n1, n2, sortI ns⟩, .slice a5 sn c5)).toArray 88) := ⟨_, rfl⟩; have HKX : Hid (Keep (fun _ => False) w5 X9) := Lib.hid (by rw [hX9]; exact (Keep.refl _ w5).alloc _); have HDX := Lib.hid (HD5.out.keep HKX.out (fun _ _ _ h => h)); have HRX : Hid (Row X9 88 3 (.slice (some ⟨w5.heap.size, 0, none⟩) 1 1) 1 (shopC (⟨n1, n2, sortI ns⟩, .slice a5 sn c5))) := Lib.hid (by rw [hX9]; exact Row.made (w := w5) (shopC (⟨n1, n2, sortI ns⟩, .slice a5 sn c5)).toArray w5.heap.size 1 rfl (by simp [maxLen]) (by simp [shopC])); have HL4 : Hid (Row X9 88 3 (.slice a1 D.shops.length c1) D.shops.length (flat shopC ss)) := Lib.hid (by have := HDX.out.l6; unfold Rec at this; rwa [HRL.out] at this); have HXE : Hid (w5.alloc (.cells #[.int .i64 n1, .int .i64 n2, .slice a5 sn c5] 88) = X9) := Lib.hid hX9.symm; clear r5 o5 k5 hX9)
    | (rw [HXE.out]; refine step_append_row rfl (.tmp 348) (.tmp 354) rfl Tryz.underlying48 hi0 hz0 hz1 hz2 rfl (by simp [go_sem]) HL4.out (by simp [go_sem]) (HRX.out.src Tryz.underlying48 (by simp [shopC, Value.oneCell'])) (by unfold maxLen; omega) (by omega) ?_; intro v9 w9 r1 r2 r3 _; obtain ⟨a9, c9, rfl, _, _⟩ := r1.slice; have nd : ¬ (Value.slice a1 D.shops.length c1).ownBlock = some d := fun e => (by obtain ⟨cs, f, hb⟩ := HL4.out.type e; exact ty_ne HDX.out.blk hb (by decide) rfl); have hb9 : w9.heap[d]? = some (.cells #[v1, v2, v3, v4, v5, .slice a1 D.shops.length c1] 50 (0, 0)) := (r2.block d (lt_of_block HDX.out.blk) nd).trans HDX.out.blk; have f9 : w9.frozen? ⟨d, 5, none⟩ = false := frozen_of_row _ _ _ _ _ hb9; have c9' : w9.cell? ⟨d, 5, none⟩ = some (.slice a1 D.shops.length c1) := (cell_of_row _ _ _ _ _ _ hb9).trans rfl; have R1 := Lib.hid r1; have R2 := Lib.hid r2; have R3 := Lib.hid r3; clear r1 r2 r3 hb9 nd))
  all_goals go_simp
  all_goals
    have HKL : Hid (Keep (fun b => B b) w (w9.setCell ⟨d, 5, none⟩ (.slice a9 (D.shops.length + 1) c9))) := Lib.hid (Keep.setCell ((((((HK3.out.trans HK5.out (fun _ h => h.elim)).trans HKX.out (fun _ h => h.elim)).mono (fun _ _ h => h.elim)).trans R2.out (fun b hb => .inl (HDX.out.o6 b hb))))) _ _ (.inl HDX.out.base.1))
    cases ok1 with
    | false =>
      go_wp2
      all_goals go_ret
      all_goals
        exact .inr ⟨by have hnl := HNL.out; unfold shopF gMax; rw [E1.out, E2.out, HNF.out]; simp, rfl, HKL.out⟩
    | true =>
      cases ok2 with
      | false =>
        go_wp2
        all_goals go_ret
        all_goals
          exact .inr ⟨by have hnl := HNL.out; unfold shopF gMax; rw [E1.out, E2.out, HNF.out]; simp, rfl, HKL.out⟩
      | true =>
        go_wp2
        all_goals go_ret
        all_goals
          have hBs : ∀ b, w3.heap.size ≤ b → B b := HDB.out.base.2
          have hu5 : Ints X9 (.slice a5 sn c5) (sortI ns) := (Ints.of_row (by have := HR5.out; rw [← HSN.out] at this ⊢; exact this)).keep HKX.out (fun _ _ _ h => h)
          refine .inl ⟨_, _, _, _, _, _, _, _, _, (by have hnl := HNL.out; unfold shopF gMax; rw [E1.out, E2.out, HNF.out]; rfl), rfl, HDX.out.put6 (x := ⟨n1, n2, sortI ns⟩) (u := .slice a5 sn c5) ?_ R2.out (fun b hb => R3.out b hb |>.imp id (fun h => h.1)) hu5 (fun b hb => hBs b (HO5.out b hb)), HKL.out⟩
          have := R1.out
          unfold Rec
          rw [List.length_append, List.length_singleton, flat_append, flat_one, HRL.out]
          exact this

set_option maxHeartbeats 16000000 in
theorem refLineShop_e {w : World} {B : Nat → Prop} {d : Nat} {D : DbM} {v1 v2 v3 v4 v5 v6 : Value} {rr : List (RecM × Value)} {ss : List (ShopM × Value)} (h : DbV B w d D v1 v2 v3 v4 v5 v6 rr ss) {g off cap : Nat} {l : List ByteArray} (hw : WsAt w g off cap l) (hg : ¬ B g)
    (_hl2 : l.length ≤ 1000000) (h0 : atW l 0 = wShop) (hn : D.shops.length ≤ 1000000) {ns : List Int} (hnf : numsF 1 1000 (l.drop 3) = some ns) (r1 : l.length = 3) (hcap : cap = 3) (_hs11 : l.length ≤ 11) :
    Calls Tryz.prog 22 #[.pointer (some ⟨d, 0, none⟩), .slice (some ⟨g, off, none⟩) l.length cap] w (LineA B w d D (shopF l)) := by
  have HV := Lib.hid h
  have HW : Hid (∀ w9, Keep (fun b => B b) w w9 → WsAt w9 g off cap l) := Lib.hid (fun w9 k => hw.keep k hg)
  obtain ⟨_, _, hv, hc1, hc2⟩ := hw.row.slice
  simp only [Value.slice.injEq] at hv
  obtain ⟨rfl, -, rfl⟩ := hv
  unfold maxLen at hc2
  obtain ⟨n1, ok1, e1⟩ : ∃ n ok, numF (atW l 1) 1 1000 = (n, ok) := ⟨_, _, rfl⟩
  have C1 := Lib.hid (fun w9 : World => refNum_any (w := w9) (atW l 1) 1 1000)
  rw [e1] at C1
  have E1 := Lib.hid e1
  obtain ⟨n2, ok2, e2⟩ : ∃ n ok, numF (atW l 2) 0 1073741824 = (n, ok) := ⟨_, _, rfl⟩
  have C2 := Lib.hid (fun w9 : World => refNum_any (w := w9) (atW l 2) 0 1073741824)
  rw [e2] at C2
  have E2 := Lib.hid e2
  have HNF := Lib.hid hnf
  have CN0 : Hid (∀ w9 : World, Keep (fun b => B b) w w9 → Calls Tryz.prog 78 #[.slice (some ⟨g, off, none⟩) 0 0, .int .i64 1, .int .i64 1000] w9 (NumsA (numsF 1 1000 (l.drop 3)) w9)) := Lib.hid (fun w9 k9 => refNums_any (show Seen w9 1 (.slice (some ⟨g, off, none⟩) 0 0) (l.drop 3).length (tcells (l.drop 3)) from by rw [show l.drop 3 = [] from List.drop_of_length_le (by omega)]; exact ⟨by simp [tcells], some ⟨g, off, none⟩, 0, rfl, Nat.le_refl _, by simp [maxLen], .inl rfl⟩) (by rw [List.length_drop]; omega) 1 1000)
  have CN : Hid (∀ w9 : World, Keep (fun b => B b) w w9 → Calls Tryz.prog 78 #[.slice (some ⟨g, off, none⟩) 0 0, .int .i64 1, .int .i64 1000] w9 fun e w' => ∃ v, e = .returned (.tuple #[v, .bool true]) ∧ Row w' 3 1 v ns.length (icells ns) ∧ Keep (fun _ => False) w9 w') := Lib.hid (fun w9 k9 => (CN0.out w9 k9).mono fun e w' hh => by
    rcases hh with ⟨l', v, hl', he, hr, ho, hk⟩ | ⟨hno, _⟩
    · rw [hnf] at hl'; cases hl'; exact ⟨v, he, hr, hk⟩
    · rw [hnf] at hno; cases hno)
  have hnsl : ns.length ≤ 1000000 := by rw [numsF_len _ _ _ _ hnf, List.length_drop]; omega
  have k0 : Keep (fun b => B b) w w := Keep.refl _ _
  have x0 := (HW.out w k0).cell (i := 0) (by omega)
  rw [h0, Nat.add_zero] at x0
  have x1 := (HW.out w k0).cell (i := 1) (by omega)
  have x2 := (HW.out w k0).cell (i := 2) (by omega)
  obtain ⟨a1, c1, hv4, hcr, hcr2⟩ := h.l6.slice
  have hrl : ss.length = D.shops.length := by rw [← h.fs, List.length_map]
  rw [hrl] at hv4 hcr
  subst hv4
  have HRL := Lib.hid hrl
  unfold maxLen at hcr2
  obtain ⟨i0, hi0, hz0, hz1, hz2⟩ := info_parts Tryz.infoShop
  have hln : (l.length : Int) = 3 := by omega
  subst hcap
  clear h hw k0 h0 CN0 hnf hrl e1 e2
  go_enter Tryz.func22, Tryz.ntmps22
  go_wp2_with (first | (go_at_call 74; (with_reducible refine (C1.out _).mono ?_); rintro e w' ⟨rfl, rfl⟩) | (go_at_call 74; (with_reducible refine (C2.out _).mono ?_); rintro e w' ⟨rfl, rfl⟩) | (go_at_call 78; (with_reducible refine (CN.out _ (Keep.refl _ _)).mono ?_); rintro e w3 ⟨va, rfl, r3, k3⟩; have HR3 := Lib.hid r3; have HK3 := Lib.hid k3; clear r3 k3))
  all_goals try (exfalso; omega)
  obtain ⟨ae, ce, rfl, hce, hce2⟩ := HR3.out.slice
  have HDB := Lib.hid (HV.out.keep HK3.out (fun _ _ _ h => h))
  have p0 : w3.cell? ⟨d, 5, none⟩ = some (.slice a1 D.shops.length c1) := (cell_of_row w3 d 5 _ _ _ HDB.out.blk).trans rfl
  have hds : d < w3.heap.size := lt_of_block HDB.out.blk
  have CS : Hid (Calls Tryz.prog 79 #[.slice ae ns.length ce] w3.drew fun e w' => ∃ a c, e = .returned (.slice a (sortI ns).length c) ∧ Row w' 3 1 (.slice a (sortI ns).length c) (sortI ns).length (icells (sortI ns)) ∧ (∀ b, (Value.slice a (sortI ns).length c).ownBlock = some b → w3.heap.size ≤ b) ∧ Keep (fun _ => False) w3 w') := Lib.hid ((refSorted_any (w := w3.drew) HR3.out.drew.seen hnsl).mono fun e w' hh => by
    obtain ⟨M, v', he, hso, hr, ho, hk⟩ := hh
    obtain rfl := hso.sortI
    obtain ⟨a, c, rfl, _, _⟩ := hr.slice
    exact ⟨a, c, he, hr, ho, ((Keep.refl _ w3).drew).trans hk (fun _ h => h.elim)⟩)
  generalize hsn : (sortI ns).length = sn at CS
  have HSN := Lib.hid hsn
  clear hsn
  go_region_law (first
    | (refine step_call1 (v0 := .slice ae ns.length ce) rfl rfl (enters_of Tryz.func79 (by kernel_rfl) rfl) (by simp [go_sem]) ?_; refine CS.out.mono ?_; rintro e w5 ⟨a5, c5, rfl, r5, o5, k5⟩; refine ⟨_, rfl, ?_⟩; have HR5 := Lib.hid r5; have HO5 := Lib.hid o5; have HK5 := Lib.hid k5; have p5 : w5.cell? ⟨d, 5, none⟩ = some (.slice a1 D.shops.length c1) := (k5.cell hds (fun h => h) _).trans p0; have hds5 : d < w5.heap.size := Nat.lt_of_lt_of_le hds k5.size; have HD5 := Lib.hid (HDB.out.keep k5 (fun _ _ _ h => h)); obtain ⟨X9, hX9⟩ : ∃ X9, X9 = w5.alloc (.cells (shopC (⟨n1, n2, sortI ns⟩, .slice a5 sn c5)).toArray 88) := ⟨_, rfl⟩; have HKX : Hid (Keep (fun _ => False) w5 X9) := Lib.hid (by rw [hX9]; exact (Keep.refl _ w5).alloc _); have HDX := Lib.hid (HD5.out.keep HKX.out (fun _ _ _ h => h)); have HRX : Hid (Row X9 88 3 (.slice (some ⟨w5.heap.size, 0, none⟩) 1 1) 1 (shopC (⟨n1, n2, sortI ns⟩, .slice a5 sn c5))) := Lib.hid (by rw [hX9]; exact Row.made (w := w5) (shopC (⟨n1, n2, sortI ns⟩, .slice a5 sn c5)).toArray w5.heap.size 1 rfl (by simp [maxLen]) (by simp [shopC])); have HL4 : Hid (Row X9 88 3 (.slice a1 D.shops.length c1) D.shops.length (flat shopC ss)) := Lib.hid (by have := HDX.out.l6; unfold Rec at this; rwa [HRL.out] at this); have HXE : Hid (w5.alloc (.cells #[.int .i64 n1, .int .i64 n2, .slice a5 sn c5] 88) = X9) := Lib.hid hX9.symm; clear r5 o5 k5 hX9)
    | (rw [HXE.out]; refine step_append_row rfl (.tmp 348) (.tmp 354) rfl Tryz.underlying48 hi0 hz0 hz1 hz2 rfl (by simp [go_sem]) HL4.out (by simp [go_sem]) (HRX.out.src Tryz.underlying48 (by simp [shopC, Value.oneCell'])) (by unfold maxLen; omega) (by omega) ?_; intro v9 w9 r1 r2 r3 _; obtain ⟨a9, c9, rfl, _, _⟩ := r1.slice; have nd : ¬ (Value.slice a1 D.shops.length c1).ownBlock = some d := fun e => (by obtain ⟨cs, f, hb⟩ := HL4.out.type e; exact ty_ne HDX.out.blk hb (by decide) rfl); have hb9 : w9.heap[d]? = some (.cells #[v1, v2, v3, v4, v5, .slice a1 D.shops.length c1] 50 (0, 0)) := (r2.block d (lt_of_block HDX.out.blk) nd).trans HDX.out.blk; have f9 : w9.frozen? ⟨d, 5, none⟩ = false := frozen_of_row _ _ _ _ _ hb9; have c9' : w9.cell? ⟨d, 5, none⟩ = some (.slice a1 D.shops.length c1) := (cell_of_row _ _ _ _ _ _ hb9).trans rfl; have R1 := Lib.hid r1; have R2 := Lib.hid r2; have R3 := Lib.hid r3; clear r1 r2 r3 hb9 nd))
  all_goals go_simp
  all_goals
    have HKL : Hid (Keep (fun b => B b) w (w9.setCell ⟨d, 5, none⟩ (.slice a9 (D.shops.length + 1) c9))) := Lib.hid (Keep.setCell ((((((HK3.out.trans HK5.out (fun _ h => h.elim)).trans HKX.out (fun _ h => h.elim)).mono (fun _ _ h => h.elim)).trans R2.out (fun b hb => .inl (HDX.out.o6 b hb))))) _ _ (.inl HDX.out.base.1))
    cases ok1 with
    | false =>
      go_wp2
      all_goals go_ret
      all_goals
        exact .inr ⟨by unfold shopF gMax; rw [E1.out, E2.out, HNF.out]; simp, rfl, HKL.out⟩
    | true =>
      cases ok2 with
      | false =>
        go_wp2
        all_goals go_ret
        all_goals
          exact .inr ⟨by unfold shopF gMax; rw [E1.out, E2.out, HNF.out]; simp, rfl, HKL.out⟩
      | true =>
        go_wp2
        all_goals go_ret
        all_goals
          have hBs : ∀ b, w3.heap.size ≤ b → B b := HDB.out.base.2
          have hu5 : Ints X9 (.slice a5 sn c5) (sortI ns) := (Ints.of_row (by have := HR5.out; rw [← HSN.out] at this ⊢; exact this)).keep HKX.out (fun _ _ _ h => h)
          refine .inl ⟨_, _, _, _, _, _, _, _, _, (by unfold shopF gMax; rw [E1.out, E2.out, HNF.out]; rfl), rfl, HDX.out.put6 (x := ⟨n1, n2, sortI ns⟩) (u := .slice a5 sn c5) ?_ R2.out (fun b hb => R3.out b hb |>.imp id (fun h => h.1)) hu5 (fun b hb => hBs b (HO5.out b hb)), HKL.out⟩
          have := R1.out
          unfold Rec
          rw [List.length_append, List.length_singleton, flat_append, flat_one, HRL.out]
          exact this

set_option maxHeartbeats 16000000 in
theorem refLineShop_g {w : World} {B : Nat → Prop} {d : Nat} {D : DbM} {v1 v2 v3 v4 v5 v6 : Value} {rr : List (RecM × Value)} {ss : List (ShopM × Value)} (h : DbV B w d D v1 v2 v3 v4 v5 v6 rr ss) {g off cap : Nat} {l : List ByteArray} (hw : WsAt w g off cap l) (hg : ¬ B g)
    (_hl2 : l.length ≤ 1000000) (h0 : atW l 0 = wShop) (hn : D.shops.length ≤ 1000000) {ns : List Int} (hnf : numsF 1 1000 (l.drop 3) = some ns) (r1 : l.length = 3) (hcap : cap ≠ 3) (_hs11 : l.length ≤ 11) :
    Calls Tryz.prog 22 #[.pointer (some ⟨d, 0, none⟩), .slice (some ⟨g, off, none⟩) l.length cap] w (LineA B w d D (shopF l)) := by
  have HV := Lib.hid h
  have HW : Hid (∀ w9, Keep (fun b => B b) w w9 → WsAt w9 g off cap l) := Lib.hid (fun w9 k => hw.keep k hg)
  obtain ⟨_, _, hv, hc1, hc2⟩ := hw.row.slice
  simp only [Value.slice.injEq] at hv
  obtain ⟨rfl, -, rfl⟩ := hv
  unfold maxLen at hc2
  obtain ⟨n1, ok1, e1⟩ : ∃ n ok, numF (atW l 1) 1 1000 = (n, ok) := ⟨_, _, rfl⟩
  have C1 := Lib.hid (fun w9 : World => refNum_any (w := w9) (atW l 1) 1 1000)
  rw [e1] at C1
  have E1 := Lib.hid e1
  obtain ⟨n2, ok2, e2⟩ : ∃ n ok, numF (atW l 2) 0 1073741824 = (n, ok) := ⟨_, _, rfl⟩
  have C2 := Lib.hid (fun w9 : World => refNum_any (w := w9) (atW l 2) 0 1073741824)
  rw [e2] at C2
  have E2 := Lib.hid e2
  have HNF := Lib.hid hnf
  have CN0 : Hid (∀ w9 : World, Keep (fun b => B b) w w9 → Calls Tryz.prog 78 #[.slice (some ⟨g, off + 3, none⟩) 0 (cap - 3), .int .i64 1, .int .i64 1000] w9 (NumsA (numsF 1 1000 (l.drop 3)) w9)) := Lib.hid (fun w9 k9 => refNums_any (by have := (HW.out w9 k9).drop0 (k := 3) (by omega); rw [show l.length - 3 = 0 by omega] at this; exact this) (by rw [List.length_drop]; omega) 1 1000)
  have CN : Hid (∀ w9 : World, Keep (fun b => B b) w w9 → Calls Tryz.prog 78 #[.slice (some ⟨g, off + 3, none⟩) 0 (cap - 3), .int .i64 1, .int .i64 1000] w9 fun e w' => ∃ v, e = .returned (.tuple #[v, .bool true]) ∧ Row w' 3 1 v ns.length (icells ns) ∧ Keep (fun _ => False) w9 w') := Lib.hid (fun w9 k9 => (CN0.out w9 k9).mono fun e w' hh => by
    rcases hh with ⟨l', v, hl', he, hr, ho, hk⟩ | ⟨hno, _⟩
    · rw [hnf] at hl'; cases hl'; exact ⟨v, he, hr, hk⟩
    · rw [hnf] at hno; cases hno)
  have hnsl : ns.length ≤ 1000000 := by rw [numsF_len _ _ _ _ hnf, List.length_drop]; omega
  have k0 : Keep (fun b => B b) w w := Keep.refl _ _
  have x0 := (HW.out w k0).cell (i := 0) (by omega)
  rw [h0, Nat.add_zero] at x0
  have x1 := (HW.out w k0).cell (i := 1) (by omega)
  have x2 := (HW.out w k0).cell (i := 2) (by omega)
  obtain ⟨a1, c1, hv4, hcr, hcr2⟩ := h.l6.slice
  have hrl : ss.length = D.shops.length := by rw [← h.fs, List.length_map]
  rw [hrl] at hv4 hcr
  subst hv4
  have HRL := Lib.hid hrl
  unfold maxLen at hcr2
  obtain ⟨i0, hi0, hz0, hz1, hz2⟩ := info_parts Tryz.infoShop
  have hln : (l.length : Int) = 3 := by omega
  have hcp : 3 < cap := by omega
  have hcz : ((cap : Int) == 3) = false := by rw [beq_eq_false_iff_ne]; omega
  clear h hw k0 h0 CN0 hnf hrl e1 e2
  go_enter Tryz.func22, Tryz.ntmps22
  go_wp2_with (first | (go_at_call 74; (with_reducible refine (C1.out _).mono ?_); rintro e w' ⟨rfl, rfl⟩) | (go_at_call 74; (with_reducible refine (C2.out _).mono ?_); rintro e w' ⟨rfl, rfl⟩) | (go_at_call 78; (with_reducible refine (CN.out _ (Keep.refl _ _)).mono ?_); rintro e w3 ⟨va, rfl, r3, k3⟩; have HR3 := Lib.hid r3; have HK3 := Lib.hid k3; clear r3 k3))
  all_goals try (exfalso; omega)
  obtain ⟨ae, ce, rfl, hce, hce2⟩ := HR3.out.slice
  have HDB := Lib.hid (HV.out.keep HK3.out (fun _ _ _ h => h))
  have p0 : w3.cell? ⟨d, 5, none⟩ = some (.slice a1 D.shops.length c1) := (cell_of_row w3 d 5 _ _ _ HDB.out.blk).trans rfl
  have hds : d < w3.heap.size := lt_of_block HDB.out.blk
  have CS : Hid (Calls Tryz.prog 79 #[.slice ae ns.length ce] w3.drew fun e w' => ∃ a c, e = .returned (.slice a (sortI ns).length c) ∧ Row w' 3 1 (.slice a (sortI ns).length c) (sortI ns).length (icells (sortI ns)) ∧ (∀ b, (Value.slice a (sortI ns).length c).ownBlock = some b → w3.heap.size ≤ b) ∧ Keep (fun _ => False) w3 w') := Lib.hid ((refSorted_any (w := w3.drew) HR3.out.drew.seen hnsl).mono fun e w' hh => by
    obtain ⟨M, v', he, hso, hr, ho, hk⟩ := hh
    obtain rfl := hso.sortI
    obtain ⟨a, c, rfl, _, _⟩ := hr.slice
    exact ⟨a, c, he, hr, ho, ((Keep.refl _ w3).drew).trans hk (fun _ h => h.elim)⟩)
  generalize hsn : (sortI ns).length = sn at CS
  have HSN := Lib.hid hsn
  clear hsn
  go_region_law (first
    | (refine step_call1 (v0 := .slice ae ns.length ce) rfl rfl (enters_of Tryz.func79 (by kernel_rfl) rfl) (by simp [go_sem]) ?_; refine CS.out.mono ?_; rintro e w5 ⟨a5, c5, rfl, r5, o5, k5⟩; refine ⟨_, rfl, ?_⟩; have HR5 := Lib.hid r5; have HO5 := Lib.hid o5; have HK5 := Lib.hid k5; have p5 : w5.cell? ⟨d, 5, none⟩ = some (.slice a1 D.shops.length c1) := (k5.cell hds (fun h => h) _).trans p0; have hds5 : d < w5.heap.size := Nat.lt_of_lt_of_le hds k5.size; have HD5 := Lib.hid (HDB.out.keep k5 (fun _ _ _ h => h)); obtain ⟨X9, hX9⟩ : ∃ X9, X9 = w5.alloc (.cells (shopC (⟨n1, n2, sortI ns⟩, .slice a5 sn c5)).toArray 88) := ⟨_, rfl⟩; have HKX : Hid (Keep (fun _ => False) w5 X9) := Lib.hid (by rw [hX9]; exact (Keep.refl _ w5).alloc _); have HDX := Lib.hid (HD5.out.keep HKX.out (fun _ _ _ h => h)); have HRX : Hid (Row X9 88 3 (.slice (some ⟨w5.heap.size, 0, none⟩) 1 1) 1 (shopC (⟨n1, n2, sortI ns⟩, .slice a5 sn c5))) := Lib.hid (by rw [hX9]; exact Row.made (w := w5) (shopC (⟨n1, n2, sortI ns⟩, .slice a5 sn c5)).toArray w5.heap.size 1 rfl (by simp [maxLen]) (by simp [shopC])); have HL4 : Hid (Row X9 88 3 (.slice a1 D.shops.length c1) D.shops.length (flat shopC ss)) := Lib.hid (by have := HDX.out.l6; unfold Rec at this; rwa [HRL.out] at this); have HXE : Hid (w5.alloc (.cells #[.int .i64 n1, .int .i64 n2, .slice a5 sn c5] 88) = X9) := Lib.hid hX9.symm; clear r5 o5 k5 hX9)
    | (rw [HXE.out]; refine step_append_row rfl (.tmp 348) (.tmp 354) rfl Tryz.underlying48 hi0 hz0 hz1 hz2 rfl (by simp [go_sem]) HL4.out (by simp [go_sem]) (HRX.out.src Tryz.underlying48 (by simp [shopC, Value.oneCell'])) (by unfold maxLen; omega) (by omega) ?_; intro v9 w9 r1 r2 r3 _; obtain ⟨a9, c9, rfl, _, _⟩ := r1.slice; have nd : ¬ (Value.slice a1 D.shops.length c1).ownBlock = some d := fun e => (by obtain ⟨cs, f, hb⟩ := HL4.out.type e; exact ty_ne HDX.out.blk hb (by decide) rfl); have hb9 : w9.heap[d]? = some (.cells #[v1, v2, v3, v4, v5, .slice a1 D.shops.length c1] 50 (0, 0)) := (r2.block d (lt_of_block HDX.out.blk) nd).trans HDX.out.blk; have f9 : w9.frozen? ⟨d, 5, none⟩ = false := frozen_of_row _ _ _ _ _ hb9; have c9' : w9.cell? ⟨d, 5, none⟩ = some (.slice a1 D.shops.length c1) := (cell_of_row _ _ _ _ _ _ hb9).trans rfl; have R1 := Lib.hid r1; have R2 := Lib.hid r2; have R3 := Lib.hid r3; clear r1 r2 r3 hb9 nd))
  all_goals go_simp
  all_goals
    have HKL : Hid (Keep (fun b => B b) w (w9.setCell ⟨d, 5, none⟩ (.slice a9 (D.shops.length + 1) c9))) := Lib.hid (Keep.setCell ((((((HK3.out.trans HK5.out (fun _ h => h.elim)).trans HKX.out (fun _ h => h.elim)).mono (fun _ _ h => h.elim)).trans R2.out (fun b hb => .inl (HDX.out.o6 b hb))))) _ _ (.inl HDX.out.base.1))
    cases ok1 with
    | false =>
      go_wp2
      all_goals go_ret
      all_goals
        exact .inr ⟨by unfold shopF gMax; rw [E1.out, E2.out, HNF.out]; simp, rfl, HKL.out⟩
    | true =>
      cases ok2 with
      | false =>
        go_wp2
        all_goals go_ret
        all_goals
          exact .inr ⟨by unfold shopF gMax; rw [E1.out, E2.out, HNF.out]; simp, rfl, HKL.out⟩
      | true =>
        go_wp2
        all_goals go_ret
        all_goals
          have hBs : ∀ b, w3.heap.size ≤ b → B b := HDB.out.base.2
          have hu5 : Ints X9 (.slice a5 sn c5) (sortI ns) := (Ints.of_row (by have := HR5.out; rw [← HSN.out] at this ⊢; exact this)).keep HKX.out (fun _ _ _ h => h)
          refine .inl ⟨_, _, _, _, _, _, _, _, _, (by unfold shopF gMax; rw [E1.out, E2.out, HNF.out]; rfl), rfl, HDX.out.put6 (x := ⟨n1, n2, sortI ns⟩) (u := .slice a5 sn c5) ?_ R2.out (fun b hb => R3.out b hb |>.imp id (fun h => h.1)) hu5 (fun b hb => hBs b (HO5.out b hb)), HKL.out⟩
          have := R1.out
          unfold Rec
          rw [List.length_append, List.length_singleton, flat_append, flat_one, HRL.out]
          exact this

theorem refLineShop_any {w : World} {B : Nat → Prop} {d : Nat} {D : DbM} {v1 v2 v3 v4 v5 v6 : Value} {rr : List (RecM × Value)} {ss : List (ShopM × Value)} (h : DbV B w d D v1 v2 v3 v4 v5 v6 rr ss) {g off cap : Nat} {l : List ByteArray} (hw : WsAt w g off cap l) (hg : ¬ B g)
    (hl : 3 ≤ l.length) (h11 : l.length ≤ 11) (h0 : atW l 0 = wShop) (hn : D.shops.length ≤ 1000000) :
    Calls Tryz.prog 22 #[.pointer (some ⟨d, 0, none⟩), .slice (some ⟨g, off, none⟩) l.length cap] w (LineA B w d D (shopF l)) := by
  have hl2 : l.length ≤ 1000000 := by omega
  by_cases h2 : l.length = 3
  · have hd : numsF 1 1000 (l.drop 3) = some [] := by rw [List.drop_of_length_le (by omega)]; rfl
    by_cases hc : cap = 3
    · skip
      exact refLineShop_e h hw hg hl2 h0 hn hd h2 hc h11
    · skip
      exact refLineShop_g h hw hg hl2 h0 hn hd h2 hc h11
  · have h3 : 4 ≤ l.length := by omega
    cases hnf : numsF 1 1000 (l.drop 3) with
    | none =>
      exact refLineShop_n h hw hg hl2 h0 hn hnf h3 h11
    | some ns =>
      exact refLineShop_s h hw hg hl2 h0 hn hnf h3 h11
end Go.Proofs.YtcodbomgodkcmaaGreatDoor.Wd
