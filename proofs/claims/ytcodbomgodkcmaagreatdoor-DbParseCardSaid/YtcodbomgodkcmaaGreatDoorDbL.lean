/- World files: the reference's line of a mob (made by tools/genline.py). -/
import Derived.Test.YtcodbomgodkcmaaGreatDoorDbH
import Derived.Deep.CutBlock
import Derived.Deep.CutRange
import Derived.Test.YtcodbomgodkcmaaGreatDoorDbS
namespace Go.Proofs.YtcodbomgodkcmaaGreatDoor.Wd
open Go.RowKit Go.Maps Go.Proofs.YtcodbomgodkcmaaGreatDoor Go.Proofs.YtcodbomgodkcmaaGreatDoor.Lin
set_option maxRecDepth 100000

theorem Tryz.infoMob : (Tryz.prog.info? 80).map (fun i => (i.zero, i.size, i.bytes)) = some (some (.agg #[.int .i64 0, .string ⟨#[]⟩, .int .i64 0, .int .i64 0, .int .i64 0, .int .i64 0, .int .i64 0]), 7, 64) := by kernel_rfl

set_option maxHeartbeats 16000000 in
theorem refLineMob_any {w : World} {B : Nat → Prop} {d : Nat} {D : DbM} {v1 v2 v3 v4 v5 v6 : Value} {rr : List (RecM × Value)} {ss : List (ShopM × Value)} (h : DbV B w d D v1 v2 v3 v4 v5 v6 rr ss) {g off cap : Nat} {l : List ByteArray} (hw : WsAt w g off cap l) (hg : ¬ B g)
    (hl : l.length = 8) (h0 : atW l 0 = wMob) (hsz : ∀ s ∈ l, s.size ≤ 1000000) (hn : D.mobs.length ≤ 1000000) :
    Calls Tryz.prog 22 #[.pointer (some ⟨d, 0, none⟩), .slice (some ⟨g, off, none⟩) l.length cap] w (LineA B w d D (mobLF l)) := by
  have HV := Lib.hid h
  have HW : Hid (∀ w9, Keep (fun b => B b) w w9 → WsAt w9 g off cap l) := Lib.hid (fun w9 k => hw.keep k hg)
  obtain ⟨_, _, hv, hc1, hc2⟩ := hw.row.slice
  simp only [Value.slice.injEq] at hv
  obtain ⟨rfl, -, rfl⟩ := hv
  unfold maxLen at hc2
  have HSZ : Hid (∀ i, i < l.length → (atW l i).size ≤ 1000000) := Lib.hid (fun i hi => hsz _ (List.mem_of_getElem? (atW_get hi)))
  obtain ⟨n1, ok1, e1⟩ : ∃ n ok, numF (atW l 1) 1 1000 = (n, ok) := ⟨_, _, rfl⟩
  have C1 := Lib.hid (fun w9 : World => refNum_any (w := w9) (atW l 1) 1 1000)
  rw [e1] at C1
  have E1 := Lib.hid e1
  obtain ⟨n3, ok3, e3⟩ : ∃ n ok, numF (atW l 3) 1 1000 = (n, ok) := ⟨_, _, rfl⟩
  have C3 := Lib.hid (fun w9 : World => refNum_any (w := w9) (atW l 3) 1 1000)
  rw [e3] at C3
  have E3 := Lib.hid e3
  obtain ⟨n4, ok4, e4⟩ : ∃ n ok, numF (atW l 4) 1 10000 = (n, ok) := ⟨_, _, rfl⟩
  have C4 := Lib.hid (fun w9 : World => refNum_any (w := w9) (atW l 4) 1 10000)
  rw [e4] at C4
  have E4 := Lib.hid e4
  obtain ⟨n5, ok5, e5⟩ : ∃ n ok, numF (atW l 5) 0 100 = (n, ok) := ⟨_, _, rfl⟩
  have C5 := Lib.hid (fun w9 : World => refNum_any (w := w9) (atW l 5) 0 100)
  rw [e5] at C5
  have E5 := Lib.hid e5
  obtain ⟨n6, ok6, e6⟩ : ∃ n ok, numF (atW l 6) 0 10000 = (n, ok) := ⟨_, _, rfl⟩
  have C6 := Lib.hid (fun w9 : World => refNum_any (w := w9) (atW l 6) 0 10000)
  rw [e6] at C6
  have E6 := Lib.hid e6
  obtain ⟨n7, ok7, e7⟩ : ∃ n ok, numF (atW l 7) 0 1073741824 = (n, ok) := ⟨_, _, rfl⟩
  have C7 := Lib.hid (fun w9 : World => refNum_any (w := w9) (atW l 7) 0 1073741824)
  rw [e7] at C7
  have E7 := Lib.hid e7
  obtain ⟨wd, hwd⟩ : ∃ wd, wd = wordOk (atW l 2) := ⟨_, rfl⟩
  have HWD := Lib.hid hwd
  have CWD : Hid (∀ w9 : World, Calls Tryz.prog 77 #[.string (atW l 2)] w9 fun e w' => e = .returned (.bool wd) ∧ w9 = w') := Lib.hid (fun w9 => by rw [hwd]; exact refWordOk _ (HSZ.out 2 (by omega)))
  have HRF : Hid (mobLF l = if (ok1 && ok3 && ok4 && ok5 && ok6 && ok7 && wd) = true then some (.mob ⟨n1, atW l 2, n3, n4, n5, n6, n7⟩) else none) := Lib.hid (by unfold mobLF gMax; rw [e1, e3, e4, e5, e6, e7, ← hwd])
  have k0 : Keep (fun b => B b) w w := Keep.refl _ _
  have x0 := (HW.out w k0).cell (i := 0) (by omega)
  rw [h0, Nat.add_zero] at x0
  have x1 := (HW.out w k0).cell (i := 1) (by omega)
  have x2 := (HW.out w k0).cell (i := 2) (by omega)
  have x3 := (HW.out w k0).cell (i := 3) (by omega)
  have x4 := (HW.out w k0).cell (i := 4) (by omega)
  have x5 := (HW.out w k0).cell (i := 5) (by omega)
  have x6 := (HW.out w k0).cell (i := 6) (by omega)
  have x7 := (HW.out w k0).cell (i := 7) (by omega)
  have x2d := (HW.out w.drew k0.drew).cell (i := 2) (by omega)
  have hn11 : (l.length : Int) = 8 := by omega
  obtain ⟨a1, c1, rfl, hcr, hcr2⟩ := h.l3.slice
  unfold maxLen at hcr2
  obtain ⟨i0, hi0, hz0, hz1, hz2⟩ := info_parts Tryz.infoMob
  clear h hw hsz k0 h0 e1 e3 e4 e5 e6 e7 hwd
  go_enter Tryz.func22, Tryz.ntmps22
  go_wp2_with (first | (go_at_call 74; (with_reducible refine (C1.out _).mono ?_); rintro e w' ⟨rfl, rfl⟩) | (go_at_call 74; (with_reducible refine (C3.out _).mono ?_); rintro e w' ⟨rfl, rfl⟩) | (go_at_call 74; (with_reducible refine (C4.out _).mono ?_); rintro e w' ⟨rfl, rfl⟩) | (go_at_call 74; (with_reducible refine (C5.out _).mono ?_); rintro e w' ⟨rfl, rfl⟩) | (go_at_call 74; (with_reducible refine (C6.out _).mono ?_); rintro e w' ⟨rfl, rfl⟩) | (go_at_call 74; (with_reducible refine (C7.out _).mono ?_); rintro e w' ⟨rfl, rfl⟩))
  have HKA : Hid (Keep (fun _ => False) w w) := Lib.hid (Keep.refl _ _)
  have HDB := Lib.hid (HV.out.keep HKA.out (fun _ _ _ h => h))
  have p0 : w.cell? ⟨d, 2, none⟩ = some (.slice a1 D.mobs.length c1) := (cell_of_row w d 2 _ _ _ HDB.out.blk).trans rfl
  have hds : d < w.heap.size := lt_of_block HDB.out.blk
  have hgs : g < w.heap.size := (HW.out _ (HKA.out.mono (fun _ _ h => h.elim))).row.lt rfl
  obtain ⟨X9, hX9⟩ : ∃ X9, X9 = (w.alloc (.cells (mobpC ⟨n1, atW l 2, n3, n4, n5, n6, n7⟩).toArray 80)).drew := ⟨_, rfl⟩
  have HKX : Hid (Keep (fun _ => False) w X9) := Lib.hid (by rw [hX9]; exact ((Keep.refl _ w).alloc _).drew)
  have HDX := Lib.hid (HDB.out.keep HKX.out (fun _ _ _ h => h))
  have HRX : Hid (Row X9 80 7 (.slice (some ⟨w.heap.size, 0, none⟩) 1 1) 1 (mobpC ⟨n1, atW l 2, n3, n4, n5, n6, n7⟩)) := Lib.hid (by rw [hX9]; exact (Row.made (w := w) (mobpC ⟨n1, atW l 2, n3, n4, n5, n6, n7⟩).toArray w.heap.size 1 rfl (by simp [maxLen]) (by simp [mobpC])).drew)
  have HXE : Hid ((w.alloc (.cells #[.int .i64 n1, .string (atW l 2), .int .i64 n3, .int .i64 n4, .int .i64 n5, .int .i64 n6, .int .i64 n7] 80)).drew = X9) := Lib.hid hX9.symm
  clear hX9
  go_wp2
  go_region_law (rw [HXE.out]; refine step_append_row rfl (.tmp 172) (.tmp 183) rfl Tryz.underlying45 hi0 hz0 hz1 hz2 rfl (by simp [go_sem]) HDX.out.l3 (by simp [go_sem]) (HRX.out.src Tryz.underlying45 (by simp [mobpC, Value.oneCell'])) (by unfold maxLen; omega) (by omega) ?_; intro v9 w9 r1 r2 r3 _; obtain ⟨a9, c9, rfl, _, _⟩ := r1.slice; have nd : ¬ (Value.slice a1 D.mobs.length c1).ownBlock = some d := fun e => (by obtain ⟨cs, f, hb⟩ := HDX.out.l3.type e; exact ty_ne HDX.out.blk hb (by decide) rfl); have hb9 : w9.heap[d]? = some (.cells #[v1, v2, .slice a1 D.mobs.length c1, v4, v5, v6] 50 (0, 0)) := (r2.block d (lt_of_block HDX.out.blk) nd).trans HDX.out.blk; have f9 : w9.frozen? ⟨d, 2, none⟩ = false := frozen_of_row _ _ _ _ _ hb9; have c9' : w9.cell? ⟨d, 2, none⟩ = some (.slice a1 D.mobs.length c1) := (cell_of_row _ _ _ _ _ _ hb9).trans rfl; have R1 := Lib.hid r1; have R2 := Lib.hid r2; have R3 := Lib.hid r3; have HKL : Hid (Keep (fun b => B b) w (w9.setCell ⟨d, 2, none⟩ (.slice a9 (D.mobs.length + 1) c9))) := Lib.hid (Keep.setCell ((((HKA.out.trans HKX.out (fun _ h => h.elim)).mono (fun _ _ h => h.elim)).trans r2 (fun b hb => .inl (HDX.out.o3 b hb)))) _ _ (.inl HDX.out.base.1)); have x2n := (HW.out _ HKL.out).cell (i := 2) (by omega); clear r1 r2 r3 hb9 nd)
  all_goals go_simp
  all_goals
    cases ok1 with
    | false =>
      go_wp2_with (go_at_call 77; (with_reducible refine (CWD.out _).mono ?_); rintro e w' ⟨rfl, rfl⟩)
      all_goals go_ret
      all_goals
        exact .inr ⟨by rw [HRF.out]; exact if_neg (by simp), rfl, HKL.out⟩
    | true =>
      cases ok3 with
      | false =>
        go_wp2_with (go_at_call 77; (with_reducible refine (CWD.out _).mono ?_); rintro e w' ⟨rfl, rfl⟩)
        all_goals go_ret
        all_goals
          exact .inr ⟨by rw [HRF.out]; exact if_neg (by simp), rfl, HKL.out⟩
      | true =>
        cases ok4 with
        | false =>
          go_wp2_with (go_at_call 77; (with_reducible refine (CWD.out _).mono ?_); rintro e w' ⟨rfl, rfl⟩)
          all_goals go_ret
          all_goals
            exact .inr ⟨by rw [HRF.out]; exact if_neg (by simp), rfl, HKL.out⟩
        | true =>
          cases ok5 with
          | false =>
            go_wp2_with (go_at_call 77; (with_reducible refine (CWD.out _).mono ?_); rintro e w' ⟨rfl, rfl⟩)
            all_goals go_ret
            all_goals
              exact .inr ⟨by rw [HRF.out]; exact if_neg (by simp), rfl, HKL.out⟩
          | true =>
            cases ok6 with
            | false =>
              go_wp2_with (go_at_call 77; (with_reducible refine (CWD.out _).mono ?_); rintro e w' ⟨rfl, rfl⟩)
              all_goals go_ret
              all_goals
                exact .inr ⟨by rw [HRF.out]; exact if_neg (by simp), rfl, HKL.out⟩
            | true =>
              cases ok7 with
              | false =>
                go_wp2_with (go_at_call 77; (with_reducible refine (CWD.out _).mono ?_); rintro e w' ⟨rfl, rfl⟩)
                all_goals go_ret
                all_goals
                  exact .inr ⟨by rw [HRF.out]; exact if_neg (by simp), rfl, HKL.out⟩
              | true =>
                cases wd with
                | false =>
                  go_wp2_with (go_at_call 77; (with_reducible refine (CWD.out _).mono ?_); rintro e w' ⟨rfl, rfl⟩)
                  all_goals go_ret
                  all_goals
                    exact .inr ⟨by rw [HRF.out]; exact if_neg (by simp), rfl, HKL.out⟩
                | true =>
                  go_wp2_with (go_at_call 77; (with_reducible refine (CWD.out _).mono ?_); rintro e w' ⟨rfl, rfl⟩)
                  all_goals go_ret
                  all_goals
                    refine .inl ⟨_, _, _, _, _, _, _, _, _, (by rw [HRF.out]; exact if_pos (by simp)), rfl, HDX.out.put3 ?_ R2.out (fun b hb => R3.out b hb |>.imp id (fun h => h.1)), HKL.out⟩
                    have := R1.out
                    unfold Rec
                    rw [List.length_append, List.length_singleton, flat_append, flat_one]
                    exact this
end Go.Proofs.YtcodbomgodkcmaaGreatDoor.Wd
/- World files: the reference's line of a quest (made by tools/genline.py). -/
namespace Go.Proofs.YtcodbomgodkcmaaGreatDoor.Wd
open Go.RowKit Go.Maps Go.Proofs.YtcodbomgodkcmaaGreatDoor Go.Proofs.YtcodbomgodkcmaaGreatDoor.Lin
set_option maxRecDepth 100000

theorem Tryz.infoQuest : (Tryz.prog.info? 86).map (fun i => (i.zero, i.size, i.bytes)) = some (some (.agg #[.int .i64 0, .int .i64 0, .int .i64 0, .int .i64 0, .int .i64 0]), 5, 40) := by kernel_rfl

set_option maxHeartbeats 16000000 in
theorem refLineQuest_any {w : World} {B : Nat → Prop} {d : Nat} {D : DbM} {v1 v2 v3 v4 v5 v6 : Value} {rr : List (RecM × Value)} {ss : List (ShopM × Value)} (h : DbV B w d D v1 v2 v3 v4 v5 v6 rr ss) {g off cap : Nat} {l : List ByteArray} (hw : WsAt w g off cap l) (hg : ¬ B g)
    (hl : l.length = 6) (h0 : atW l 0 = wQuest) (hsz : ∀ s ∈ l, s.size ≤ 1000000) (hn : D.quests.length ≤ 1000000) :
    Calls Tryz.prog 22 #[.pointer (some ⟨d, 0, none⟩), .slice (some ⟨g, off, none⟩) l.length cap] w (LineA B w d D (questF l)) := by
  have HV := Lib.hid h
  have HW : Hid (∀ w9, Keep (fun b => B b) w w9 → WsAt w9 g off cap l) := Lib.hid (fun w9 k => hw.keep k hg)
  obtain ⟨_, _, hv, hc1, hc2⟩ := hw.row.slice
  simp only [Value.slice.injEq] at hv
  obtain ⟨rfl, -, rfl⟩ := hv
  unfold maxLen at hc2
  have HSZ : Hid (∀ i, i < l.length → (atW l i).size ≤ 1000000) := Lib.hid (fun i hi => hsz _ (List.mem_of_getElem? (atW_get hi)))
  obtain ⟨n1, ok1, e1⟩ : ∃ n ok, numF (atW l 1) 1 1000 = (n, ok) := ⟨_, _, rfl⟩
  have C1 := Lib.hid (fun w9 : World => refNum_any (w := w9) (atW l 1) 1 1000)
  rw [e1] at C1
  have E1 := Lib.hid e1
  obtain ⟨n2, ok2, e2⟩ : ∃ n ok, numF (atW l 2) 1 1000 = (n, ok) := ⟨_, _, rfl⟩
  have C2 := Lib.hid (fun w9 : World => refNum_any (w := w9) (atW l 2) 1 1000)
  rw [e2] at C2
  have E2 := Lib.hid e2
  obtain ⟨n3, ok3, e3⟩ : ∃ n ok, numF (atW l 3) 1 5 = (n, ok) := ⟨_, _, rfl⟩
  have C3 := Lib.hid (fun w9 : World => refNum_any (w := w9) (atW l 3) 1 5)
  rw [e3] at C3
  have E3 := Lib.hid e3
  obtain ⟨n4, ok4, e4⟩ : ∃ n ok, numF (atW l 4) 0 1073741824 = (n, ok) := ⟨_, _, rfl⟩
  have C4 := Lib.hid (fun w9 : World => refNum_any (w := w9) (atW l 4) 0 1073741824)
  rw [e4] at C4
  have E4 := Lib.hid e4
  obtain ⟨n5, ok5, e5⟩ : ∃ n ok, numF (atW l 5) 0 1000 = (n, ok) := ⟨_, _, rfl⟩
  have C5 := Lib.hid (fun w9 : World => refNum_any (w := w9) (atW l 5) 0 1000)
  rw [e5] at C5
  have E5 := Lib.hid e5
  have HRF : Hid (questF l = if (ok1 && ok2 && ok3 && ok4 && ok5) = true then some (.quest ⟨n1, n2, n3, n4, n5⟩) else none) := Lib.hid (by unfold questF gMax; rw [e1, e2, e3, e4, e5])
  have k0 : Keep (fun b => B b) w w := Keep.refl _ _
  have x0 := (HW.out w k0).cell (i := 0) (by omega)
  rw [h0, Nat.add_zero] at x0
  have x1 := (HW.out w k0).cell (i := 1) (by omega)
  have x2 := (HW.out w k0).cell (i := 2) (by omega)
  have x3 := (HW.out w k0).cell (i := 3) (by omega)
  have x4 := (HW.out w k0).cell (i := 4) (by omega)
  have x5 := (HW.out w k0).cell (i := 5) (by omega)
  have x2d := (HW.out w.drew k0.drew).cell (i := 2) (by omega)
  have hn11 : (l.length : Int) = 6 := by omega
  obtain ⟨a1, c1, rfl, hcr, hcr2⟩ := h.l5.slice
  unfold maxLen at hcr2
  obtain ⟨i0, hi0, hz0, hz1, hz2⟩ := info_parts Tryz.infoQuest
  clear h hw hsz k0 h0 e1 e2 e3 e4 e5
  have HKA : Hid (Keep (fun _ => False) w w) := Lib.hid (Keep.refl _ _)
  have HDB := Lib.hid (HV.out.keep HKA.out (fun _ _ _ h => h))
  have p0 : w.cell? ⟨d, 4, none⟩ = some (.slice a1 D.quests.length c1) := (cell_of_row w d 4 _ _ _ HDB.out.blk).trans rfl
  have hds : d < w.heap.size := lt_of_block HDB.out.blk
  have hgs : g < w.heap.size := (HW.out _ (HKA.out.mono (fun _ _ h => h.elim))).row.lt rfl
  obtain ⟨X9, hX9⟩ : ∃ X9, X9 = (w.alloc (.cells (questC ⟨n1, n2, n3, n4, n5⟩).toArray 86)) := ⟨_, rfl⟩
  have HKX : Hid (Keep (fun _ => False) w X9) := Lib.hid (by rw [hX9]; exact ((Keep.refl _ w).alloc _))
  have HDX := Lib.hid (HDB.out.keep HKX.out (fun _ _ _ h => h))
  have HRX : Hid (Row X9 86 5 (.slice (some ⟨w.heap.size, 0, none⟩) 1 1) 1 (questC ⟨n1, n2, n3, n4, n5⟩)) := Lib.hid (by rw [hX9]; exact (Row.made (w := w) (questC ⟨n1, n2, n3, n4, n5⟩).toArray w.heap.size 1 rfl (by simp [maxLen]) (by simp [questC])))
  have HXE : Hid ((w.alloc (.cells #[.int .i64 n1, .int .i64 n2, .int .i64 n3, .int .i64 n4, .int .i64 n5] 86)) = X9) := Lib.hid hX9.symm
  clear hX9
  go_enter Tryz.func22, Tryz.ntmps22
  go_upto_region 41 with (first | (go_at_call 74; (with_reducible refine (C1.out _).mono ?_); rintro e w' ⟨rfl, rfl⟩) | (go_at_call 74; (with_reducible refine (C2.out _).mono ?_); rintro e w' ⟨rfl, rfl⟩) | (go_at_call 74; (with_reducible refine (C3.out _).mono ?_); rintro e w' ⟨rfl, rfl⟩) | (go_at_call 74; (with_reducible refine (C4.out _).mono ?_); rintro e w' ⟨rfl, rfl⟩) | (go_at_call 74; (with_reducible refine (C5.out _).mono ?_); rintro e w' ⟨rfl, rfl⟩) | (at_builtin; rw [HXE.out]; refine wpList_append_row _ rfl (.tmp 292) (.tmp 299) rfl Tryz.underlying47 hi0 hz0 hz1 hz2 rfl rfl HDX.out.l5 rfl (HRX.out.src Tryz.underlying47 (by simp [questC, Value.oneCell'])) (by unfold maxLen; omega) (by omega) ?_; intro v9 w9 r1 r2 r3 _; obtain ⟨a9, c9, rfl, _, _⟩ := r1.slice; have nd : ¬ (Value.slice a1 D.quests.length c1).ownBlock = some d := fun e => (by obtain ⟨cs, f, hb⟩ := HDX.out.l5.type e; exact ty_ne HDX.out.blk hb (by decide) rfl); have hb9 : w9.heap[d]? = some (.cells #[v1, v2, v3, v4, .slice a1 D.quests.length c1, v6] 50 (0, 0)) := (r2.block d (lt_of_block HDX.out.blk) nd).trans HDX.out.blk; have f9 : w9.frozen? ⟨d, 4, none⟩ = false := frozen_of_row _ _ _ _ _ hb9; have c9' : w9.cell? ⟨d, 4, none⟩ = some (.slice a1 D.quests.length c1) := (cell_of_row _ _ _ _ _ _ hb9).trans rfl; have R1 := Lib.hid r1; have R2 := Lib.hid r2; have R3 := Lib.hid r3; have HKL : Hid (Keep (fun b => B b) w (w9.setCell ⟨d, 4, none⟩ (.slice a9 (D.quests.length + 1) c9))) := Lib.hid (Keep.setCell ((((HKA.out.trans HKX.out (fun _ h => h.elim)).mono (fun _ _ h => h.elim)).trans r2 (fun b hb => .inl (HDX.out.o5 b hb)))) _ _ (.inl HDX.out.base.1)); have x2n := (HW.out _ HKL.out).cell (i := 2) (by omega); clear r1 r2 r3 hb9 nd))
  all_goals
    cases ok1 with
    | false =>
      go_wp2
      all_goals go_ret
      all_goals
        exact .inr ⟨by rw [HRF.out]; exact if_neg (by simp), rfl, HKL.out⟩
    | true =>
      cases ok2 with
      | false =>
        go_wp2
        all_goals go_ret
        all_goals
          exact .inr ⟨by rw [HRF.out]; exact if_neg (by simp), rfl, HKL.out⟩
      | true =>
        cases ok3 with
        | false =>
          go_wp2
          all_goals go_ret
          all_goals
            exact .inr ⟨by rw [HRF.out]; exact if_neg (by simp), rfl, HKL.out⟩
        | true =>
          cases ok4 with
          | false =>
            go_wp2
            all_goals go_ret
            all_goals
              exact .inr ⟨by rw [HRF.out]; exact if_neg (by simp), rfl, HKL.out⟩
          | true =>
            cases ok5 with
            | false =>
              go_wp2
              all_goals go_ret
              all_goals
                exact .inr ⟨by rw [HRF.out]; exact if_neg (by simp), rfl, HKL.out⟩
            | true =>
              go_wp2
              all_goals go_ret
              all_goals
                refine .inl ⟨_, _, _, _, _, _, _, _, _, (by rw [HRF.out]; exact if_pos (by simp)), rfl, HDX.out.put5 ?_ R2.out (fun b hb => R3.out b hb |>.imp id (fun h => h.1)), HKL.out⟩
                have := R1.out
                unfold Rec
                rw [List.length_append, List.length_singleton, flat_append, flat_one]
                exact this
end Go.Proofs.YtcodbomgodkcmaaGreatDoor.Wd
/- World files: the reference's line of a item (made by tools/genline.py). -/
namespace Go.Proofs.YtcodbomgodkcmaaGreatDoor.Wd
open Go.RowKit Go.Maps Go.Proofs.YtcodbomgodkcmaaGreatDoor Go.Proofs.YtcodbomgodkcmaaGreatDoor.Lin
set_option maxRecDepth 100000

theorem Tryz.infoItem : (Tryz.prog.info? 78).map (fun i => (i.zero, i.size, i.bytes)) = some (some (.agg #[.int .i64 0, .string ⟨#[]⟩, .int .i64 0, .int .i64 0, .int .i64 0]), 5, 48) := by kernel_rfl

set_option maxHeartbeats 16000000 in
theorem refLineItem_any {w : World} {B : Nat → Prop} {d : Nat} {D : DbM} {v1 v2 v3 v4 v5 v6 : Value} {rr : List (RecM × Value)} {ss : List (ShopM × Value)} (h : DbV B w d D v1 v2 v3 v4 v5 v6 rr ss) {g off cap : Nat} {l : List ByteArray} (hw : WsAt w g off cap l) (hg : ¬ B g)
    (hl : l.length = 6) (h0 : atW l 0 = wItem) (hsz : ∀ s ∈ l, s.size ≤ 1000000) (hn : D.protos.length ≤ 1000000) :
    Calls Tryz.prog 22 #[.pointer (some ⟨d, 0, none⟩), .slice (some ⟨g, off, none⟩) l.length cap] w (LineA B w d D (itemF l)) := by
  have HV := Lib.hid h
  have HW : Hid (∀ w9, Keep (fun b => B b) w w9 → WsAt w9 g off cap l) := Lib.hid (fun w9 k => hw.keep k hg)
  obtain ⟨_, _, hv, hc1, hc2⟩ := hw.row.slice
  simp only [Value.slice.injEq] at hv
  obtain ⟨rfl, -, rfl⟩ := hv
  unfold maxLen at hc2
  have HSZ : Hid (∀ i, i < l.length → (atW l i).size ≤ 1000000) := Lib.hid (fun i hi => hsz _ (List.mem_of_getElem? (atW_get hi)))
  obtain ⟨n1, ok1, e1⟩ : ∃ n ok, numF (atW l 1) 1 1000 = (n, ok) := ⟨_, _, rfl⟩
  have C1 := Lib.hid (fun w9 : World => refNum_any (w := w9) (atW l 1) 1 1000)
  rw [e1] at C1
  have E1 := Lib.hid e1
  obtain ⟨n4, ok4, e4⟩ : ∃ n ok, numF (atW l 4) 0 100 = (n, ok) := ⟨_, _, rfl⟩
  have C4 := Lib.hid (fun w9 : World => refNum_any (w := w9) (atW l 4) 0 100)
  rw [e4] at C4
  have E4 := Lib.hid e4
  obtain ⟨n5, ok5, e5⟩ : ∃ n ok, numF (atW l 5) 0 1073741824 = (n, ok) := ⟨_, _, rfl⟩
  have C5 := Lib.hid (fun w9 : World => refNum_any (w := w9) (atW l 5) 0 1073741824)
  rw [e5] at C5
  have E5 := Lib.hid e5
  obtain ⟨sn, hsn⟩ : ∃ sn, sn = slotNF (atW l 3) := ⟨_, rfl⟩
  have HSN := Lib.hid hsn
  have CW : Hid (∀ (w9 : World) (v : Value), Seen w9 1 v 3 (tcells slotsW) → Calls Tryz.prog 75 #[.string (atW l 3), v] w9 fun e w' => e = .returned (.int .i64 sn) ∧ w9 = w') := Lib.hid (fun w9 v hs => by
    rw [hsn]; exact refWordI_any (atW l 3) (L := slotsW) hs (by simp))
  have CK := Lib.hid (fun w9 : World => refSlots_any (w := w9))
  obtain ⟨wd, hwd⟩ : ∃ wd, wd = wordOk (atW l 2) := ⟨_, rfl⟩
  have HWD := Lib.hid hwd
  have CWD : Hid (∀ w9 : World, Calls Tryz.prog 77 #[.string (atW l 2)] w9 fun e w' => e = .returned (.bool wd) ∧ w9 = w') := Lib.hid (fun w9 => by rw [hwd]; exact refWordOk _ (HSZ.out 2 (by omega)))
  have HRF : Hid (itemF l = if (ok1 && ok4 && ok5 && decide (0 ≤ sn) && wd) = true then some (.proto ⟨n1, atW l 2, sn, n4, n5⟩) else none) := Lib.hid (by unfold itemF gMax; rw [e1, e4, e5, ← hsn, ← hwd])
  have k0 : Keep (fun b => B b) w w := Keep.refl _ _
  have x0 := (HW.out w k0).cell (i := 0) (by omega)
  rw [h0, Nat.add_zero] at x0
  have x1 := (HW.out w k0).cell (i := 1) (by omega)
  have x3 := (HW.out w k0).cell (i := 3) (by omega)
  have x3d := (HW.out w.drew k0.drew).cell (i := 3) (by omega)
  have hn11 : (l.length : Int) = 6 := by omega
  obtain ⟨a1, c1, rfl, hcr, hcr2⟩ := h.l2.slice
  unfold maxLen at hcr2
  obtain ⟨i0, hi0, hz0, hz1, hz2⟩ := info_parts Tryz.infoItem
  clear h hw hsz k0 h0 e1 e4 e5 hsn hwd
  go_enter Tryz.func22, Tryz.ntmps22
  go_wp2_with (first | (go_at_call 74; (with_reducible refine (C1.out _).mono ?_); rintro e w' ⟨rfl, rfl⟩) | (go_at_call 74; (with_reducible refine (C4.out _).mono ?_); rintro e w' ⟨rfl, rfl⟩) | (go_at_call 74; (with_reducible refine (C5.out _).mono ?_); rintro e w' ⟨rfl, rfl⟩))
  go_region_with (first
    | (go_at_call 76; (with_reducible refine (CK.out _).mono ?_); rintro e w2 ⟨vk, rfl, hs, hk⟩; have HKS := Lib.hid hs; have HK2 : Hid (Keep (fun _ => False) w w2) := Lib.hid (((Keep.refl _ w).drew).trans hk (fun _ h => h.elim)); have x3'' := (HW.out w2 (HK2.out.mono (fun _ _ h => h.elim))).cell (i := 3) (by omega); clear hs hk)
    | (go_at_call 75; (with_reducible refine (CW.out _ _ HKS.out).mono ?_); rintro e w' ⟨rfl, rfl⟩))
  all_goals
    have y4 := (HW.out w2 (HK2.out.mono (fun _ _ h => h.elim))).cell (i := 4) (by omega)
    have y5 := (HW.out w2 (HK2.out.mono (fun _ _ h => h.elim))).cell (i := 5) (by omega)
    have y2 := (HW.out w2 (HK2.out.mono (fun _ _ h => h.elim))).cell (i := 2) (by omega)
    have y2' := (HW.out w2.drew (HK2.out.drew.mono (fun _ _ h => h.elim))).cell (i := 2) (by omega)
    go_wp2_with (first | (go_at_call 74; (with_reducible refine (C1.out _).mono ?_); rintro e w' ⟨rfl, rfl⟩) | (go_at_call 74; (with_reducible refine (C4.out _).mono ?_); rintro e w' ⟨rfl, rfl⟩) | (go_at_call 74; (with_reducible refine (C5.out _).mono ?_); rintro e w' ⟨rfl, rfl⟩))
    have HKA : Hid (Keep (fun _ => False) w w2) := HK2
    have HDB := Lib.hid (HV.out.keep HKA.out (fun _ _ _ h => h))
    have p0 : w2.cell? ⟨d, 1, none⟩ = some (.slice a1 D.protos.length c1) := (cell_of_row w2 d 1 _ _ _ HDB.out.blk).trans rfl
    have hds : d < w2.heap.size := lt_of_block HDB.out.blk
    have hgs : g < w2.heap.size := (HW.out _ (HKA.out.mono (fun _ _ h => h.elim))).row.lt rfl
    obtain ⟨X9, hX9⟩ : ∃ X9, X9 = (w2.alloc (.cells (protoC ⟨n1, atW l 2, sn, n4, n5⟩).toArray 78)).drew := ⟨_, rfl⟩
    have HKX : Hid (Keep (fun _ => False) w2 X9) := Lib.hid (by rw [hX9]; exact ((Keep.refl _ w2).alloc _).drew)
    have HDX := Lib.hid (HDB.out.keep HKX.out (fun _ _ _ h => h))
    have HRX : Hid (Row X9 78 5 (.slice (some ⟨w2.heap.size, 0, none⟩) 1 1) 1 (protoC ⟨n1, atW l 2, sn, n4, n5⟩)) := Lib.hid (by rw [hX9]; exact (Row.made (w := w2) (protoC ⟨n1, atW l 2, sn, n4, n5⟩).toArray w2.heap.size 1 rfl (by simp [maxLen]) (by simp [protoC])).drew)
    have HXE : Hid ((w2.alloc (.cells #[.int .i64 n1, .string (atW l 2), .int .i64 sn, .int .i64 n4, .int .i64 n5] 78)).drew = X9) := Lib.hid hX9.symm
    clear hX9
    go_wp2
    go_region_law (rw [HXE.out]; refine step_append_row rfl (.tmp 92) (.tmp 101) rfl Tryz.underlying44 hi0 hz0 hz1 hz2 rfl (by simp [go_sem]) HDX.out.l2 (by simp [go_sem]) (HRX.out.src Tryz.underlying44 (by simp [protoC, Value.oneCell'])) (by unfold maxLen; omega) (by omega) ?_; intro v9 w9 r1 r2 r3 _; obtain ⟨a9, c9, rfl, _, _⟩ := r1.slice; have nd : ¬ (Value.slice a1 D.protos.length c1).ownBlock = some d := fun e => (by obtain ⟨cs, f, hb⟩ := HDX.out.l2.type e; exact ty_ne HDX.out.blk hb (by decide) rfl); have hb9 : w9.heap[d]? = some (.cells #[v1, .slice a1 D.protos.length c1, v3, v4, v5, v6] 50 (0, 0)) := (r2.block d (lt_of_block HDX.out.blk) nd).trans HDX.out.blk; have f9 : w9.frozen? ⟨d, 1, none⟩ = false := frozen_of_row _ _ _ _ _ hb9; have c9' : w9.cell? ⟨d, 1, none⟩ = some (.slice a1 D.protos.length c1) := (cell_of_row _ _ _ _ _ _ hb9).trans rfl; have R1 := Lib.hid r1; have R2 := Lib.hid r2; have R3 := Lib.hid r3; have HKL : Hid (Keep (fun b => B b) w (w9.setCell ⟨d, 1, none⟩ (.slice a9 (D.protos.length + 1) c9))) := Lib.hid (Keep.setCell ((((HKA.out.trans HKX.out (fun _ h => h.elim)).mono (fun _ _ h => h.elim)).trans r2 (fun b hb => .inl (HDX.out.o2 b hb)))) _ _ (.inl HDX.out.base.1)); have x2n := (HW.out _ HKL.out).cell (i := 2) (by omega); clear r1 r2 r3 hb9 nd)
    all_goals go_simp
    all_goals
      cases ok1 with
      | false =>
        go_wp2_with (go_at_call 77; (with_reducible refine (CWD.out _).mono ?_); rintro e w' ⟨rfl, rfl⟩)
        all_goals go_ret
        all_goals
          exact .inr ⟨by rw [HRF.out]; exact if_neg (by simp), rfl, HKL.out⟩
      | true =>
        cases ok4 with
        | false =>
          go_wp2_with (go_at_call 77; (with_reducible refine (CWD.out _).mono ?_); rintro e w' ⟨rfl, rfl⟩)
          all_goals go_ret
          all_goals
            exact .inr ⟨by rw [HRF.out]; exact if_neg (by simp), rfl, HKL.out⟩
        | true =>
          cases ok5 with
          | false =>
            go_wp2_with (go_at_call 77; (with_reducible refine (CWD.out _).mono ?_); rintro e w' ⟨rfl, rfl⟩)
            all_goals go_ret
            all_goals
              exact .inr ⟨by rw [HRF.out]; exact if_neg (by simp), rfl, HKL.out⟩
          | true =>
            by_cases hs0 : 0 ≤ sn
            case neg =>
              have ds : decide (0 ≤ sn) = false := by simpa using hs0
              rw [ds] at HRF
              go_wp2_with (go_at_call 77; (with_reducible refine (CWD.out _).mono ?_); rintro e w' ⟨rfl, rfl⟩)
              all_goals go_ret
              all_goals
                exact .inr ⟨by rw [HRF.out]; exact if_neg (by simp), rfl, HKL.out⟩
            case pos =>
              have ds : decide (0 ≤ sn) = true := by simpa using hs0
              rw [ds] at HRF
              cases wd with
              | false =>
                go_wp2_with (go_at_call 77; (with_reducible refine (CWD.out _).mono ?_); rintro e w' ⟨rfl, rfl⟩)
                all_goals go_ret
                all_goals
                  exact .inr ⟨by rw [HRF.out]; exact if_neg (by simp), rfl, HKL.out⟩
              | true =>
                go_wp2_with (go_at_call 77; (with_reducible refine (CWD.out _).mono ?_); rintro e w' ⟨rfl, rfl⟩)
                all_goals go_ret
                all_goals
                  refine .inl ⟨_, _, _, _, _, _, _, _, _, (by rw [HRF.out]; exact if_pos (by simp)), rfl, HDX.out.put2 ?_ R2.out (fun b hb => R3.out b hb |>.imp id (fun h => h.1)), HKL.out⟩
                  have := R1.out
                  unfold Rec
                  rw [List.length_append, List.length_singleton, flat_append, flat_one]
                  exact this
end Go.Proofs.YtcodbomgodkcmaaGreatDoor.Wd
/- World files: the reference's Line, of any words. -/
namespace Go.Proofs.YtcodbomgodkcmaaGreatDoor.Wd
open Go.RowKit Go.Maps Go.Proofs.YtcodbomgodkcmaaGreatDoor Go.Proofs.YtcodbomgodkcmaaGreatDoor.Lin
set_option maxRecDepth 100000

theorem refRoomNo_any {w : World} {B : Nat → Prop} {d : Nat} {D : DbM} {g off cap : Nat} {l : List ByteArray} (hl : l.length ≠ 11) :
    Calls Tryz.prog 73 #[.pointer (some ⟨d, 0, none⟩), .slice (some ⟨g, off, none⟩) l.length cap] w (LineA B w d D none) := by
  obtain ⟨n, hn⟩ : ∃ n, n = l.length := ⟨_, rfl⟩
  rw [← hn] at hl ⊢
  have d1 : ((n : Int) != 11) = true := by rw [bne_iff_ne]; omega
  have d2 : ((n : Int) == 11) = false := by rw [beq_eq_false_iff_ne]; omega
  clear hn
  go_enter Tryz.func73, Tryz.ntmps73
  go_wp2
  go_ret
  exact .inr ⟨rfl, rfl, Keep.refl _ _⟩

theorem refLineShort_any {w : World} {B : Nat → Prop} {d : Nat} {D : DbM} {v : Value} {l : List ByteArray} (hw : Seen w 1 v l.length (tcells l)) (hl : l.length < 2) :
    Calls Tryz.prog 22 #[.pointer (some ⟨d, 0, none⟩), v] w (LineA B w d D none) := by
  obtain ⟨_, a1, c1, rfl, _, _, _⟩ := hw
  obtain ⟨n, hn⟩ : ∃ n, n = l.length := ⟨_, rfl⟩
  rw [← hn] at hl ⊢
  have d1 : decide ((n : Int) < 2) = true := by rw [decide_eq_true_eq]; omega
  clear hn
  go_enter Tryz.func22, Tryz.ntmps22
  go_wp2
  go_ret
  exact .inr ⟨rfl, rfl, Keep.refl _ _⟩

set_option maxHeartbeats 4000000 in
theorem refLineRoom_any {w : World} {B : Nat → Prop} {d : Nat} {D : DbM} {g off cap : Nat} {l : List ByteArray} {o : Option RecI} (hw : WsAt w g off cap l) (hl : 2 ≤ l.length) (h0 : atW l 0 = wRoom)
    (hc : Calls Tryz.prog 73 #[.pointer (some ⟨d, 0, none⟩), .slice (some ⟨g, off, none⟩) l.length cap] w (LineA B w d D o)) :
    Calls Tryz.prog 22 #[.pointer (some ⟨d, 0, none⟩), .slice (some ⟨g, off, none⟩) l.length cap] w (LineA B w d D o) := by
  have x0 := hw.cell (i := 0) (by omega)
  rw [h0, Nat.add_zero] at x0
  obtain ⟨n, hn⟩ : ∃ n, n = l.length := ⟨_, rfl⟩
  rw [← hn] at hl hc ⊢
  have d2 : decide ((n : Int) < 2) = false := by rw [decide_eq_false_iff_not]; omega
  have d0 : (0 : Int) < (n : Int) := by omega
  have HC : Hid (Calls Tryz.prog 73 #[.pointer (some ⟨d, 0, none⟩), .slice (some ⟨g, off, none⟩) n cap] w fun e w' => ∃ b, e = .returned (.bool b) ∧ LineA B w d D o (.returned (.bool b)) w') := Lib.hid (hc.mono fun e w' hh => by
    rcases hh with ⟨R, a1, a2, a3, a4, a5, a6, a7, a8, q1, rfl, q3, q4⟩ | ⟨q1, rfl, q3⟩
    · exact ⟨true, rfl, .inl ⟨R, a1, a2, a3, a4, a5, a6, a7, a8, q1, rfl, q3, q4⟩⟩
    · exact ⟨false, rfl, .inr ⟨q1, rfl, q3⟩⟩)
  clear hw hc hn h0
  go_enter Tryz.func22, Tryz.ntmps22
  go_wp2_with (go_at_call 73; (with_reducible refine HC.out.mono ?_); rintro e w9 ⟨b, rfl, hb⟩; have HB := Lib.hid hb; clear hb)
  go_ret
  exact HB.out

theorem refLineItemNo_any {w : World} {B : Nat → Prop} {d : Nat} {D : DbM} {g off cap : Nat} {l : List ByteArray} (hw : WsAt w g off cap l) (hl : 2 ≤ l.length) (h0 : atW l 0 = wItem) (hne : l.length ≠ 6) :
    Calls Tryz.prog 22 #[.pointer (some ⟨d, 0, none⟩), .slice (some ⟨g, off, none⟩) l.length cap] w (LineA B w d D none) := by
  have x0 := hw.cell (i := 0) (by omega)
  rw [h0, Nat.add_zero] at x0
  obtain ⟨n, hn⟩ : ∃ n, n = l.length := ⟨_, rfl⟩
  rw [← hn] at hl hne ⊢
  have d2 : decide ((n : Int) < 2) = false := by rw [decide_eq_false_iff_not]; omega
  have d0 : (0 : Int) < (n : Int) := by omega
  have d3 : ((n : Int) != 6) = true := by rw [bne_iff_ne]; omega
  have d4 : ((n : Int) == 6) = false := by rw [beq_eq_false_iff_ne]; omega
  clear hw hn h0 hne
  go_enter Tryz.func22, Tryz.ntmps22
  go_wp2
  go_ret
  exact .inr ⟨rfl, rfl, Keep.refl _ _⟩

theorem refLineMobNo_any {w : World} {B : Nat → Prop} {d : Nat} {D : DbM} {g off cap : Nat} {l : List ByteArray} (hw : WsAt w g off cap l) (hl : 2 ≤ l.length) (h0 : atW l 0 = wMob) (hne : l.length ≠ 8) :
    Calls Tryz.prog 22 #[.pointer (some ⟨d, 0, none⟩), .slice (some ⟨g, off, none⟩) l.length cap] w (LineA B w d D none) := by
  have x0 := hw.cell (i := 0) (by omega)
  rw [h0, Nat.add_zero] at x0
  obtain ⟨n, hn⟩ : ∃ n, n = l.length := ⟨_, rfl⟩
  rw [← hn] at hl hne ⊢
  have d2 : decide ((n : Int) < 2) = false := by rw [decide_eq_false_iff_not]; omega
  have d0 : (0 : Int) < (n : Int) := by omega
  have d3 : ((n : Int) != 8) = true := by rw [bne_iff_ne]; omega
  have d4 : ((n : Int) == 8) = false := by rw [beq_eq_false_iff_ne]; omega
  clear hw hn h0 hne
  go_enter Tryz.func22, Tryz.ntmps22
  go_wp2
  go_ret
  exact .inr ⟨rfl, rfl, Keep.refl _ _⟩

theorem refLineQuestNo_any {w : World} {B : Nat → Prop} {d : Nat} {D : DbM} {g off cap : Nat} {l : List ByteArray} (hw : WsAt w g off cap l) (hl : 2 ≤ l.length) (h0 : atW l 0 = wQuest) (hne : l.length ≠ 6) :
    Calls Tryz.prog 22 #[.pointer (some ⟨d, 0, none⟩), .slice (some ⟨g, off, none⟩) l.length cap] w (LineA B w d D none) := by
  have x0 := hw.cell (i := 0) (by omega)
  rw [h0, Nat.add_zero] at x0
  obtain ⟨n, hn⟩ : ∃ n, n = l.length := ⟨_, rfl⟩
  rw [← hn] at hl hne ⊢
  have d2 : decide ((n : Int) < 2) = false := by rw [decide_eq_false_iff_not]; omega
  have d0 : (0 : Int) < (n : Int) := by omega
  have d3 : ((n : Int) != 6) = true := by rw [bne_iff_ne]; omega
  have d4 : ((n : Int) == 6) = false := by rw [beq_eq_false_iff_ne]; omega
  clear hw hn h0 hne
  go_enter Tryz.func22, Tryz.ntmps22
  go_wp2
  go_ret
  exact .inr ⟨rfl, rfl, Keep.refl _ _⟩

theorem refLineShopNo_any {w : World} {B : Nat → Prop} {d : Nat} {D : DbM} {g off cap : Nat} {l : List ByteArray} (hw : WsAt w g off cap l) (hl : 2 ≤ l.length) (h0 : atW l 0 = wShop) (hne : l.length < 3 ∨ 11 < l.length) :
    Calls Tryz.prog 22 #[.pointer (some ⟨d, 0, none⟩), .slice (some ⟨g, off, none⟩) l.length cap] w (LineA B w d D none) := by
  have x0 := hw.cell (i := 0) (by omega)
  rw [h0, Nat.add_zero] at x0
  obtain ⟨n, hn⟩ : ∃ n, n = l.length := ⟨_, rfl⟩
  rw [← hn] at hl hne ⊢
  have d2 : decide ((n : Int) < 2) = false := by rw [decide_eq_false_iff_not]; omega
  have d0 : (0 : Int) < (n : Int) := by omega
  clear hw hn h0
  by_cases h3 : n < 3
  · have d3 : decide ((n : Int) < 3) = true := by rw [decide_eq_true_eq]; omega
    clear hne h3
    go_enter Tryz.func22, Tryz.ntmps22
    go_wp2
    go_ret
    exact .inr ⟨rfl, rfl, Keep.refl _ _⟩
  · have d3 : decide ((n : Int) < 3) = false := by rw [decide_eq_false_iff_not]; omega
    have d4 : decide (11 < (n : Int)) = true := by rw [decide_eq_true_eq]; omega
    clear hne h3
    go_enter Tryz.func22, Tryz.ntmps22
    go_wp2
    go_ret
    exact .inr ⟨rfl, rfl, Keep.refl _ _⟩

/-- A word is another: as the walk spells it. -/
theorem word_ne {s t : ByteArray} (h : s ≠ t) : (s.toList == t.data.toList) = false := by
  rw [ByteArray.toList_eq, beq_eq_false_iff_ne]
  intro e
  exact h (ByteArray.ext (Array.ext' e))

theorem refLineUnknown_any {w : World} {B : Nat → Prop} {d : Nat} {D : DbM} {g off cap : Nat} {l : List ByteArray} (hw : WsAt w g off cap l) (hl : 2 ≤ l.length) (h1 : atW l 0 ≠ wRoom) (h2 : atW l 0 ≠ wItem) (h3 : atW l 0 ≠ wMob) (h4 : atW l 0 ≠ wRecipe) (h5 : atW l 0 ≠ wQuest) (h6 : atW l 0 ≠ wShop) :
    Calls Tryz.prog 22 #[.pointer (some ⟨d, 0, none⟩), .slice (some ⟨g, off, none⟩) l.length cap] w (LineA B w d D none) := by
  have x0 := hw.cell (i := 0) (by omega)
  rw [Nat.add_zero] at x0
  have e1 := word_ne h1
  have e2 := word_ne h2
  have e3 := word_ne h3
  have e4 := word_ne h4
  have e5 := word_ne h5
  have e6 := word_ne h6
  simp only at e1 e2 e3 e4 e5 e6
  obtain ⟨s, hs⟩ : ∃ s, s = atW l 0 := ⟨_, rfl⟩
  rw [← hs] at x0 e1 e2 e3 e4 e5 e6
  obtain ⟨n, hn⟩ : ∃ n, n = l.length := ⟨_, rfl⟩
  rw [← hn] at hl ⊢
  have d2 : decide ((n : Int) < 2) = false := by rw [decide_eq_false_iff_not]; omega
  have d0 : (0 : Int) < (n : Int) := by omega
  clear hw hn h1 h2 h3 h4 h5 h6 hs
  go_enter Tryz.func22, Tryz.ntmps22
  go_wp2
  go_ret
  exact .inr ⟨rfl, rfl, Keep.refl _ _⟩

/-- THE REFERENCE'S Line, of any words. -/
theorem refLine_any {w : World} {B : Nat → Prop} {d : Nat} {D : DbM} {v1 v2 v3 v4 v5 v6 : Value} {rr : List (RecM × Value)} {ss : List (ShopM × Value)} (h : DbV B w d D v1 v2 v3 v4 v5 v6 rr ss) {g off cap : Nat} {l : List ByteArray} (hw : WsAt w g off cap l) (hg : ¬ B g)
    (hl2 : l.length ≤ 1000000) (hsz : ∀ s ∈ l, s.size ≤ 1000000) (n1 : D.rooms.length ≤ 1000000) (n2 : D.protos.length ≤ 1000000) (n3 : D.mobs.length ≤ 1000000) (n4 : D.recs.length ≤ 1000000) (n5 : D.quests.length ≤ 1000000) (n6 : D.shops.length ≤ 1000000) :
    Calls Tryz.prog 22 #[.pointer (some ⟨d, 0, none⟩), .slice (some ⟨g, off, none⟩) l.length cap] w (LineA B w d D (lineW l)) := by
  unfold lineW
  by_cases hs : l.length < 2
  · rw [if_pos hs]; exact refLineShort_any hw.row.seen hs
  rw [if_neg hs]
  have hl : 2 ≤ l.length := by omega
  by_cases h1 : atW l 0 = wRoom
  · rw [if_pos h1]
    by_cases hn : l.length = 11
    · rw [if_pos hn]; exact refLineRoom_any hw hl h1 (refRoomL_any h hw hg hn hsz n1)
    · rw [if_neg hn]; exact refLineRoom_any hw hl h1 (refRoomNo_any hn)
  rw [if_neg h1]
  by_cases h2 : atW l 0 = wItem
  · rw [if_pos h2]
    by_cases hn : l.length = 6
    · rw [if_pos hn]; exact refLineItem_any h hw hg hn h2 hsz n2
    · rw [if_neg hn]; exact refLineItemNo_any hw hl h2 hn
  rw [if_neg h2]
  by_cases h3 : atW l 0 = wMob
  · rw [if_pos h3]
    by_cases hn : l.length = 8
    · rw [if_pos hn]; exact refLineMob_any h hw hg hn h3 hsz n3
    · rw [if_neg hn]; exact refLineMobNo_any hw hl h3 hn
  rw [if_neg h3]
  by_cases h4 : atW l 0 = wRecipe
  · rw [if_pos h4]; exact refLineRecipe_any h hw hg hl hl2 h4 n4
  rw [if_neg h4]
  by_cases h5 : atW l 0 = wQuest
  · rw [if_pos h5]
    by_cases hn : l.length = 6
    · rw [if_pos hn]; exact refLineQuest_any h hw hg hn h5 hsz n5
    · rw [if_neg hn]; exact refLineQuestNo_any hw hl h5 hn
  rw [if_neg h5]
  by_cases h6 : atW l 0 = wShop
  · rw [if_pos h6]
    by_cases hn : l.length < 3 ∨ 11 < l.length
    · rw [if_pos hn]; exact refLineShopNo_any hw hl h6 hn
    · rw [if_neg hn]; exact refLineShop_any h hw hg (by omega) (by omega) h6 n6
  rw [if_neg h6]
  exact refLineUnknown_any hw hl h1 h2 h3 h4 h5 h6
end Go.Proofs.YtcodbomgodkcmaaGreatDoor.Wd
