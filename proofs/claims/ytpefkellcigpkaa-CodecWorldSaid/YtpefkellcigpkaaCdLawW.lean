/- CodecWorld: its walk. -/
import Derived.Test.YtpefkellcigpkaaCdBeg
import Derived.Test.YtpefkellcigpkaaCdTxt
import Derived.Test.YtpefkellcigpkaaCdZ
import Derived.Test.YtpefkellcigpkaaCdEqW
import Derived.Deep.CutBlock
import Derived.Deep.CutRange
import Derived.Deep.RegionWith
import Derived.OwnWalk
namespace Go.Proofs.Ytpefkellcigpkaa.Cd
open Go.RowKit Go.Deep Go.Proofs.Ytpefkellcigpkaa
set_option maxRecDepth 100000

/-- What the reference's comparison does (shown in another text). -/
def REqSpec : Prop := ∀ {w : World} {Pb Qb : Nat → Prop} {p q : Value} {x y : MWorld}, PAt eWorld Pb w p x → PAt eWorld Qb w q y → Calls Try.prog 10 #[p, q] w (EqA x y w)

/-- Two worlds that were cut. -/
structure TwoW (w : World) (p q : Value) (wx : World) : Prop where
  ex : ∃ (g1 g2 : Nat) (x y : MWorld), p = .pointer (some ⟨g1, 0, none⟩) ∧ q = .pointer (some ⟨g2, 0, none⟩) ∧ PAt eWorld (fun b => b < wx.heap.size) wx (.pointer (some ⟨g1, 0, none⟩)) x ∧ PAt eWorld (fun b => b < wx.heap.size) wx (.pointer (some ⟨g2, 0, none⟩)) y ∧ SmallW x ∧ SmallW y ∧ Keep (fun _ => False) w wx

set_option maxHeartbeats 8000000 in
theorem codecWorld_any (HEW : EqWorldSpec) (HCW : CutSpec) (HRE : REqSpec) {w : World} {x y : MWorld} {v1 v2 v3 v4 v5 v6 u1 u2 u3 u4 u5 u6 : Value}
    (hx : eWorld.H (fun b => b < w.heap.size) w x (wcells x.1 x.2.1 x.2.2.1 v1 v2 v3 v4 v5 v6).toList) (hw : wWorld x) (hy : eWorld.H (fun b => b < w.heap.size) w y (wcells y.1 y.2.1 y.2.2.1 u1 u2 u3 u4 u5 u6).toList) (hv : wWorld y) :
    Calls Try.prog 3 #[.agg (wcells x.1 x.2.1 x.2.2.1 v1 v2 v3 v4 v5 v6), .agg (wcells y.1 y.2.1 y.2.2.1 u1 u2 u3 u4 u5 u6)] w fun e w' => e = .returned (.bool true) ∧ Keep (fun _ => False) w w' := by
  obtain ⟨y0, y1, y2, y3⟩ := x
  obtain ⟨z0, z1, z2, z3⟩ := y
  simp only at hx hy ⊢
  have K2 : Hid (Keep (fun _ => False) w ((w.alloc (.cells (wcells y0 y1 y2 v1 v2 v3 v4 v5 v6) 29)).alloc (.cells (wcells z0 z1 z2 u1 u2 u3 u4 u5 u6) 29))) := Lib.hid (((Keep.refl _ w).alloc _).alloc _)
  have hA : ((w.alloc (.cells (wcells y0 y1 y2 v1 v2 v3 v4 v5 v6) 29)).alloc (.cells (wcells z0 z1 z2 u1 u2 u3 u4 u5 u6) 29)).heap[w.heap.size]? = some (.cells (wcells y0 y1 y2 v1 v2 v3 v4 v5 v6) 29 (0, 0)) :=
    (((Keep.refl (fun _ => False) (w.alloc _)).alloc _).block _ (by rw [World.size_alloc]; omega) (fun h => h)).trans (heap_alloc_new w _)
  have hB : ((w.alloc (.cells (wcells y0 y1 y2 v1 v2 v3 v4 v5 v6) 29)).alloc (.cells (wcells z0 z1 z2 u1 u2 u3 u4 u5 u6) 29)).heap[w.heap.size + 1]? = some (.cells (wcells z0 z1 z2 u1 u2 u3 u4 u5 u6) 29 (0, 0)) := by
    have h9 := heap_alloc_new (w.alloc (.cells (wcells y0 y1 y2 v1 v2 v3 v4 v5 v6) 29)) (.cells (wcells z0 z1 z2 u1 u2 u3 u4 u5 u6) 29)
    rwa [World.size_alloc] at h9
  have HA := Lib.hid hA
  have HB := Lib.hid hB
  have HX := Lib.hid hx
  have HY := Lib.hid hy
  have HW := Lib.hid hw
  have HV := Lib.hid hv
  clear hA hB hx hy hw hv
  go_enter Try.func3, Try.ntmps3
  go_wp2_with fail
  generalize ((w.alloc (.cells (wcells y0 y1 y2 v1 v2 v3 v4 v5 v6) 29)).alloc (.cells (wcells z0 z1 z2 u1 u2 u3 u4 u5 u6) 29)) = w2 at *
  obtain ⟨B, hBB⟩ : ∃ B, B = w.heap.size := ⟨_, rfl⟩
  rw [← hBB] at HA HB ⊢
  clear hBB
  refine (begun_any HEW).mono ?_
  rintro e w3 ⟨rfl, hk3⟩
  have K3 := Lib.hid (K2.out.trans hk3 (fun _ h => h.elim))
  have HA3 := Lib.hid ((hk3.block _ (lt_of_block HA.out) (fun h => h)).trans HA.out)
  have HB3 := Lib.hid ((hk3.block _ (lt_of_block HB.out) (fun h => h)).trans HB.out)
  clear hk3 HA HB K2
  go_upto_region 4 with (fail)
  go_cut [6, 7] from 16 to 19 (fun p q wx => TwoW w3 p q wx)
  case first =>
    have HC1 : Hid (∀ w9, Keep (fun _ => False) w3 w9 → Calls Try.prog 7 #[.agg (wcells y0 y1 y2 v1 v2 v3 v4 v5 v6)] w9 (CutA w9)) := Lib.hid (fun w9 k9 =>
      HCW (eWorld.mono (fun b _ hb => by have := K3.out.size; have := k9.size; omega) (eWorld.keep (K3.out.trans k9 (fun _ h => h.elim)) (fun _ _ _ h => h) HX.out)) HW.out)
    have HC2 : Hid (∀ w9, Keep (fun _ => False) w3 w9 → Calls Try.prog 7 #[.agg (wcells z0 z1 z2 u1 u2 u3 u4 u5 u6)] w9 (CutA w9)) := Lib.hid (fun w9 k9 =>
      HCW (eWorld.mono (fun b _ hb => by have := K3.out.size; have := k9.size; omega) (eWorld.keep (K3.out.trans k9 (fun _ h => h.elim)) (fun _ _ _ h => h) HY.out)) HV.out)
    refine wp_region_z (fun w' => Keep (fun _ => False) w3 w') [] (by kernel_rfl) ?_
    have HS3 : Hid ((fun w' => Keep (fun _ => False) w3 w') w3.drew) := Lib.hid ((Keep.refl (fun _ => False) w3).drew)
    refine wpAnyZ_loadD (i := 0) (d := 16) (v := ?_) rfl rfl (by kernel_rfl) (by kernel_rfl) (by kernel_rfl) (by kernel_rfl) (fun _ _ _ h => h) HS3.out (by rfl) ?_ ?_
    rotate_left 1
    · (intro w9 hS9; have ha9 := (hS9.block _ (lt_of_block HA3.out) (fun h => h)).trans HA3.out; have p0 : _ = some (Value.int .i64 y0) := (cell_of_row _ _ 0 _ _ _ ha9).trans rfl; have p1 : _ = some (Value.int .i64 y1) := (cell_of_row _ _ 1 _ _ _ ha9).trans rfl; have p2 : _ = some (Value.int .i64 y2) := (cell_of_row _ _ 2 _ _ _ ha9).trans rfl; have p3 : _ = some (v1) := (cell_of_row _ _ 3 _ _ _ ha9).trans rfl; have p4 : _ = some (v2) := (cell_of_row _ _ 4 _ _ _ ha9).trans rfl; have p5 : _ = some (v3) := (cell_of_row _ _ 5 _ _ _ ha9).trans rfl; have p6 : _ = some (v4) := (cell_of_row _ _ 6 _ _ _ ha9).trans rfl; have p7 : _ = some (v5) := (cell_of_row _ _ 7 _ _ _ ha9).trans rfl; have p8 : _ = some (v6) := (cell_of_row _ _ 8 _ _ _ ha9).trans rfl; go_simp <;> with_reducible rfl)
    simp only [Act.put, List.setIfInBounds_toArray, List.set_cons_succ, List.set_cons_zero]
    refine wpAnyZ_loadD (i := 2) (d := 18) (v := ?_) rfl rfl (by kernel_rfl) (by kernel_rfl) (by kernel_rfl) (by kernel_rfl) (fun _ _ _ h => h) HS3.out (by rfl) ?_ ?_
    rotate_left 1
    · (intro w9 hS9; have hb9 := (hS9.block _ (lt_of_block HB3.out) (fun h => h)).trans HB3.out; have p0 : _ = some (Value.int .i64 z0) := (cell_of_row _ _ 0 _ _ _ hb9).trans rfl; have p1 : _ = some (Value.int .i64 z1) := (cell_of_row _ _ 1 _ _ _ hb9).trans rfl; have p2 : _ = some (Value.int .i64 z2) := (cell_of_row _ _ 2 _ _ _ hb9).trans rfl; have p3 : _ = some (u1) := (cell_of_row _ _ 3 _ _ _ hb9).trans rfl; have p4 : _ = some (u2) := (cell_of_row _ _ 4 _ _ _ hb9).trans rfl; have p5 : _ = some (u3) := (cell_of_row _ _ 5 _ _ _ hb9).trans rfl; have p6 : _ = some (u4) := (cell_of_row _ _ 6 _ _ _ hb9).trans rfl; have p7 : _ = some (u5) := (cell_of_row _ _ 7 _ _ _ hb9).trans rfl; have p8 : _ = some (u6) := (cell_of_row _ _ 8 _ _ _ hb9).trans rfl; go_simp <;> with_reducible rfl)
    simp only [Act.put, List.setIfInBounds_toArray, List.set_cons_succ, List.set_cons_zero]
    refine wpAnyZ_one (i := 1) rfl (by kernel_rfl) (by rfl) ?_
    intro K9 hK9
    go_simp
    go_at_call 7
    (with_reducible refine (HC1.out _ ((Keep.refl (fun _ => False) w3).drew)).mono ?_)
    rintro e w4 ⟨g4, x4, rfl, hp4, hs4, hk4⟩
    have HP4 := Lib.hid (hp4.mono (Qb := fun b => b < w4.heap.size) (fun _ h _ => h))
    have HS4 := Lib.hid hs4
    have HK4 := Lib.hid (((Keep.refl (fun _ => False) w3).drew).trans hk4 (fun _ h => h.elim))
    clear hp4 hs4 hk4
    refine hK9.out _ _ (fun _ _ => HK4.out) ?_
    clear hK9 K9
    refine wpAnyZ_one (i := 3) rfl (by kernel_rfl) (by rfl) ?_
    intro K9 hK9
    go_simp
    go_at_call 7
    (with_reducible refine (HC2.out _ HK4.out).mono ?_)
    rintro e w5 ⟨g5, x5, rfl, hp5, hs5, hk5⟩
    have HP5 := Lib.hid (hp5.mono (Qb := fun b => b < w5.heap.size) (fun _ h _ => h))
    have HP45 := Lib.hid ((HP4.out.keep hk5 (fun _ _ _ h => h)).mono (Qb := fun b => b < w5.heap.size) (fun _ h _ => h))
    have HS5 := Lib.hid hs5
    have HK5 := Lib.hid (HK4.out.trans hk5 (fun _ h => h.elim))
    clear hp5 hs5 hk5
    refine hK9.out _ _ (fun _ _ => HK5.out) ?_
    clear hK9 K9
    refine wpAnyZ_takeD (i := 4) (d := 6) (v := ?_) rfl rfl (by kernel_rfl) (by kernel_rfl) (by kernel_rfl) (fun _ _ _ h => h) (by rfl) ?_ ?_
    rotate_left 1
    · (intro w9; go_simp <;> with_reducible rfl)
    simp only [Act.put, List.setIfInBounds_toArray, List.set_cons_succ, List.set_cons_zero]
    refine wpAnyZ_takeD (i := 5) (d := 7) (v := ?_) rfl rfl (by kernel_rfl) (by kernel_rfl) (by kernel_rfl) (fun _ _ _ h => h) (by rfl) ?_ ?_
    rotate_left 1
    · (intro w9; go_simp <;> with_reducible rfl)
    simp only [Act.put, List.setIfInBounds_toArray, List.set_cons_succ, List.set_cons_zero]
    refine wpAnyZ_done (by kernel_rfl) ?_ _
    go_wp2_with fail
    go_meet
    case rel => exact ⟨g4, g5, x4, x5, rfl, rfl, HP45.out, HP5.out, HS4.out, HS5.out, HK5.out⟩
  case rest =>
    obtain ⟨g1, g2, x, y, rfl, rfl, hp, hq, hsx, hsy, hk⟩ := hcut.ex
    generalize wc = wa at *
    have HPX : Hid (∀ w9, Keep (fun _ => False) wa w9 → PAt eWorld (fun b => b < w9.heap.size) w9 (.pointer (some ⟨g1, 0, none⟩)) x) := Lib.hid (fun w9 k => (hp.keep k (fun _ _ _ h => h)).mono (fun _ h _ => h))
    have HPY : Hid (∀ w9, Keep (fun _ => False) wa w9 → PAt eWorld (fun b => b < w9.heap.size) w9 (.pointer (some ⟨g2, 0, none⟩)) y) := Lib.hid (fun w9 k => (hq.keep k (fun _ _ _ h => h)).mono (fun _ h _ => h))
    have HSX := Lib.hid hsx
    obtain ⟨bp, hbp⟩ : ∃ bp, bp = 87 :: cWorld.enc x := ⟨_, rfl⟩
    obtain ⟨bq, hbq⟩ : ∃ bq, bq = 87 :: cWorld.enc y := ⟨_, rfl⟩
    have HEQ : Hid (bp = bq ↔ x = y) := Lib.hid (by rw [hbp, hbq]; exact whole_inj 87 cWorld _ _ hsx.okW hsy.okW)
    have HWF : Hid (whole 87 cWorld bp = some x) := Lib.hid (by rw [hbp]; exact whole_fwd 87 cWorld _ hsx.okW)
    have HTX : Hid (bp.length ≤ txtN x) := Lib.hid (by rw [hbp]; exact hsx.txt)
    have HW1 : Hid (∀ w9, Keep (fun _ => False) wa w9 → Calls Try.prog 8 #[.pointer (some ⟨g1, 0, none⟩)] w9 (Puts (fun _ => False) w9 bp)) := Lib.hid (fun w9 k => by
      rw [hbp]; exact world_any (Pb := fun b => b < w9.heap.size) (fun _ h => h) (HPX.out _ k) hsx.okW (by have := hsx.len; unfold lim; omega))
    have HW2 : Hid (∀ w9, Keep (fun _ => False) wa w9 → Calls Try.prog 8 #[.pointer (some ⟨g2, 0, none⟩)] w9 (Puts (fun _ => False) w9 bq)) := Lib.hid (fun w9 k => by
      rw [hbq]; exact world_any (Pb := fun b => b < w9.heap.size) (fun _ h => h) (HPY.out _ k) hsy.okW (by have := hsy.len; unfold lim; omega))
    have HKA := Lib.hid (K3.out.trans hk (fun _ h => h.elim))
    clear hcut hp hq hsx hsy hbp hbq hk HA3 HB3 K3 HX HY HW HV
    go_wp2_with fail
    refine (HW1.out _ (Keep.refl _ wa)).mono ?_
    rintro e w5 ⟨ap, np, cp, rfl, h5⟩
    have HK5 := Lib.hid h5.keep
    have HNP : Hid (np = bp.length) := Lib.hid (by obtain ⟨_, _, e, _⟩ := h5.row.slice; simp only [Value.slice.injEq] at e; exact e.2.1)
    have HP5 : Hid (Seen w5 1 (.slice ap np cp) bp.length (bcells bp) ∧ ∀ b, own (.slice ap np cp) b → b < w5.heap.size) := Lib.hid ⟨h5.row.seen, fun b hb => h5.row.lt hb⟩
    clear h5
    go_wp2_with fail
    refine (HW2.out _ HK5.out).mono ?_
    rintro e w6 ⟨aq, mq, cq, rfl, h6⟩
    have HK6 := Lib.hid (HK5.out.trans h6.keep (fun _ h => h.elim))
    have HNQ : Hid (mq = bq.length) := Lib.hid (by obtain ⟨_, _, e, _⟩ := h6.row.slice; simp only [Value.slice.injEq] at e; exact e.2.1)
    have HQ6 : Hid (Seen w6 1 (.slice aq mq cq) bq.length (bcells bq)) := Lib.hid h6.row.seen
    have HP6 : Hid (Seen w6 1 (.slice ap np cp) bp.length (bcells bp) ∧ ∀ b, own (.slice ap np cp) b → b < w6.heap.size) := Lib.hid ⟨Seen.keep HP5.out.1 h6.keep (fun _ _ _ h => h), fun b hb => Nat.lt_of_lt_of_le (HP5.out.2 b hb) h6.keep.size⟩
    have HRW := Lib.hid (readWorld_any HP6.out.1 HP6.out.2)
    rw [HWF.out] at HRW
    clear h6
    go_wp2_with fail
    refine HRW.out.mono ?_
    rintro e w7 hr
    obtain ⟨gz, oz, rfl, hz⟩ := hr.some x rfl
    have HK67 := Lib.hid hr.keep
    have HK7 := Lib.hid (HK6.out.trans hr.keep (fun _ h => h.elim))
    have HPZ := Lib.hid hz
    clear hr hz HRW
    go_wp2_with fail
    refine (HRE (HPX.out _ HK7.out) (HPY.out _ HK7.out)).mono ?_
    rintro e w8 ⟨b1, rfl, hb1, hk8⟩
    have HB1 := Lib.hid hb1
    have HK8 := Lib.hid (HK7.out.trans hk8 (fun _ h => h.elim))
    have HK78 := Lib.hid hk8
    clear hb1 hk8
    go_wp2_with fail
    refine (HRE (HPX.out _ HK8.out) (HPZ.out.keep HK78.out (fun _ _ _ h => h))).mono ?_
    rintro e w9 ⟨b2, rfl, hb2, hk9⟩
    obtain rfl : b2 = true := hb2.2 rfl
    have HK9 := Lib.hid (HK8.out.trans hk9 (fun _ h => h.elim))
    have HK69 := Lib.hid ((HK67.out.trans HK78.out (fun _ h => h.elim)).trans hk9 (fun _ h => h.elim))
    clear hb2 hk9
    go_wp2_with fail
    refine (HEW (HPX.out _ HK9.out) (HPY.out _ HK9.out)).mono ?_
    rintro e w10 ⟨b3, rfl, hb3, hk10⟩
    have hb13 : b3 = b1 := by
      have h1 := HB1.out
      cases b1 <;> cases b3 <;> simp_all
    subst hb13
    have hst : (bp == bq) = b3 := by
      have h2 := HEQ.out
      cases hbb : b3 with
      | true =>
        rw [hbb] at hb3
        rw [h2.2 (hb3.1 rfl)]; simp
      | false =>
        rw [hbb] at hb3
        have hne : ¬ bp = bq := fun e => by have := hb3.2 (h2.1 e); cases this
        simp [hne]
    have hbb : (b3 == b3) = true := by cases b3 <;> rfl
    have HK10 := Lib.hid (HK9.out.trans hk10 (fun _ h => h.elim))
    have HK610 := Lib.hid (HK69.out.trans hk10 (fun _ h => h.elim))
    have cv1 := seen_string (w := w10) HNP.out (by have := HP6.out.1.keep HK610.out (fun _ _ _ h => h); rw [HNP.out] at this ⊢; exact this)
    have cv2 := seen_string (w := w10) HNQ.out (by have := HQ6.out.keep HK610.out (fun _ _ _ h => h); rw [HNQ.out] at this ⊢; exact this)
    clear hb3 hk10
    go_wp2_with fail
    refine (texts_any (HPX.out _ HK10.out) HSX.out).mono ?_
    rintro e w11 ⟨rfl, hk11⟩
    obtain ⟨T, hT⟩ : ∃ T, T = txtN x := ⟨_, rfl⟩
    rw [← hT]
    have hle : (np : Int) ≤ (T : Int) := by have := HTX.out; have := HNP.out; omega
    have HK11 := Lib.hid (HKA.out.trans (HK10.out.trans hk11 (fun _ h => h.elim)) (fun _ h => h.elim))
    clear hT hk11 cv1 cv2
    go_wp2_with fail
    refine eqWorld_nil.mono ?_
    rintro e w12 ⟨rfl, rfl⟩
    go_wp2_with fail
    refine (eqWorld_one _ _).mono ?_
    rintro e w13 ⟨rfl, rfl⟩
    go_wp2_with fail
    refine (world_nil _).mono ?_
    rintro e w14 ⟨rfl, rfl⟩
    go_wp2_with fail
    go_ret
    exact ⟨rfl, HK11.out⟩

end Go.Proofs.Ytpefkellcigpkaa.Cd
