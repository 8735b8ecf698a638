/- codec: houses and events, compared. -/
import Derived.Test.YtpefkellcigpkaaCdEqI
namespace Go.Proofs.Ytpefkellcigpkaa.Cd
open Go.RowKit Go.Proofs.Ytpefkellcigpkaa
set_option maxRecDepth 100000

set_option maxHeartbeats 16000000 in
theorem sameHouse_any {w : World} {Pb Qb : Nat → Prop} {x y : _} {cs ds : List Value} (hx : eHouse.H Pb w x cs) (hy : eHouse.H Qb w y ds) : Calls Try.prog 56 #[.agg cs.toArray, .agg ds.toArray] w (EqA x y w) := by
  obtain ⟨x0, x1, x2, x3⟩ := x
  obtain ⟨xv, xL, rfl⟩ := hx
  have XL := Lib.hid xL
  obtain ⟨xa, xc, rfl, _⟩ := xL.slice
  obtain ⟨y0, y1, y2, y3⟩ := y
  obtain ⟨yv, yL, rfl⟩ := hy
  have YL := Lib.hid yL
  obtain ⟨ya, yc, rfl, _⟩ := yL.slice
  simp only at XL YL xL yL
  have K0 : Hid (Keep (fun _ => False) w ((w.alloc (.cells #[Value.int .i64 x0, Value.string x1, .slice xa x2.length xc, Value.int .i64 x3] 65)).alloc (.cells #[Value.int .i64 y0, Value.string y1, .slice ya y2.length yc, Value.int .i64 y3] 65))) := Lib.hid (((Keep.refl _ w).alloc _).alloc _)
  have B1 : Hid (((w.alloc (.cells #[Value.int .i64 x0, Value.string x1, .slice xa x2.length xc, Value.int .i64 x3] 65)).alloc (.cells #[Value.int .i64 y0, Value.string y1, .slice ya y2.length yc, Value.int .i64 y3] 65)).heap[w.heap.size]? = some (.cells #[Value.int .i64 x0, Value.string x1, .slice xa x2.length xc, Value.int .i64 x3] 65 (0, 0))) := Lib.hid ((((Keep.refl (fun _ => False) (w.alloc (.cells #[Value.int .i64 x0, Value.string x1, .slice xa x2.length xc, Value.int .i64 x3] 65))).alloc (.cells #[Value.int .i64 y0, Value.string y1, .slice ya y2.length yc, Value.int .i64 y3] 65)).block _ (by rw [World.size_alloc]; omega) (fun h => h)).trans (heap_alloc_new w _))
  have B2 : Hid (((w.alloc (.cells #[Value.int .i64 x0, Value.string x1, .slice xa x2.length xc, Value.int .i64 x3] 65)).alloc (.cells #[Value.int .i64 y0, Value.string y1, .slice ya y2.length yc, Value.int .i64 y3] 65)).heap[w.heap.size + 1]? = some (.cells #[Value.int .i64 y0, Value.string y1, .slice ya y2.length yc, Value.int .i64 y3] 65 (0, 0))) := Lib.hid (by have h9 := heap_alloc_new (w.alloc (.cells #[Value.int .i64 x0, Value.string x1, .slice xa x2.length xc, Value.int .i64 x3] 65)) (.cells #[Value.int .i64 y0, Value.string y1, .slice ya y2.length yc, Value.int .i64 y3] 65); rwa [World.size_alloc] at h9)
  have cx0 : _ = some (Value.int .i64 x0) := (cell_of_row _ _ 0 _ _ _ B1.out).trans rfl
  have cy0 : _ = some (Value.int .i64 y0) := (cell_of_row _ _ 0 _ _ _ B2.out).trans rfl
  have cx1 : _ = some (Value.string x1) := (cell_of_row _ _ 1 _ _ _ B1.out).trans rfl
  have cy1 : _ = some (Value.string y1) := (cell_of_row _ _ 1 _ _ _ B2.out).trans rfl
  have cx2 : _ = some (Value.slice xa x2.length xc) := (cell_of_row _ _ 2 _ _ _ B1.out).trans rfl
  have cy2 : _ = some (Value.slice ya y2.length yc) := (cell_of_row _ _ 2 _ _ _ B2.out).trans rfl
  have cx3 : _ = some (Value.int .i64 x3) := (cell_of_row _ _ 3 _ _ _ B1.out).trans rfl
  have cy3 : _ = some (Value.int .i64 y3) := (cell_of_row _ _ 3 _ _ _ B2.out).trans rfl
  clear xL yL
  go_enter Try.func56, Try.ntmps56
  by_cases hxy0 : x0 = y0
  · subst hxy0
    by_cases hxy1 : x1 = y1
    · subst hxy1
      go_wp2_with fail
      refine (eqTexts_any (XL.out.keep K0.out (fun _ _ _ h => h)) (YL.out.keep K0.out (fun _ _ _ h => h))).mono ?_
      rintro e w1 ⟨b1, rfl, hb1, hk1⟩
      have K1 := Lib.hid (K0.out.trans hk1 (fun _ h => h.elim))
      have D1x1 := Lib.hid ((hk1.block _ (lt_of_block B1.out) (fun h => h)).trans B1.out)
      have D2x1 := Lib.hid ((hk1.block _ (lt_of_block B2.out) (fun h => h)).trans B2.out)
      have HBX1 := Lib.hid hb1
      clear hk1 hb1 cx0 cy0 cx1 cy1 cx2 cy2 cx3 cy3
      cases b1 with
      | false =>
        have HNE : Hid (¬ x2 = y2) := Lib.hid (fun e => by have := HBX1.out.2 e; cases this)
        go_wp2_with fail
        go_ret
        refine ⟨false, rfl, ⟨fun h => ?_, fun h => ?_⟩, K1.out⟩
        · cases h
        · simp only [Prod.mk.injEq] at h
          exact (HNE.out (by simp only [h])).elim
      | true =>
        have HEQ1 := HBX1.out.1 rfl
        subst HEQ1
        have cx0 : _ = some (Value.int .i64 x0) := (cell_of_row _ _ 0 _ _ _ D1x1.out).trans rfl
        have cy0 : _ = some (Value.int .i64 x0) := (cell_of_row _ _ 0 _ _ _ D2x1.out).trans rfl
        have cx1 : _ = some (Value.string x1) := (cell_of_row _ _ 1 _ _ _ D1x1.out).trans rfl
        have cy1 : _ = some (Value.string x1) := (cell_of_row _ _ 1 _ _ _ D2x1.out).trans rfl
        have cx2 : _ = some (Value.slice xa x2.length xc) := (cell_of_row _ _ 2 _ _ _ D1x1.out).trans rfl
        have cy2 : _ = some (Value.slice ya x2.length yc) := (cell_of_row _ _ 2 _ _ _ D2x1.out).trans rfl
        have cx3 : _ = some (Value.int .i64 x3) := (cell_of_row _ _ 3 _ _ _ D1x1.out).trans rfl
        have cy3 : _ = some (Value.int .i64 y3) := (cell_of_row _ _ 3 _ _ _ D2x1.out).trans rfl
        by_cases hxy3 : x3 = y3
        · subst hxy3
          go_wp2_with fail
          go_ret
          exact ⟨true, rfl, ⟨fun _ => rfl, fun _ => rfl⟩, K1.out⟩
        · have hq : (x3 == y3) = false := by simpa using hxy3
          have HNE := Lib.hid hxy3
          clear hxy3
          go_wp2_with fail
          go_ret
          refine ⟨false, rfl, ⟨fun h => ?_, fun h => ?_⟩, K1.out⟩
          · cases h
          · simp only [Prod.mk.injEq] at h
            exact (HNE.out (by simp only [h])).elim
    · have hq : (x1.toList == y1.toList) = false := str_ne hxy1
      have HNE := Lib.hid hxy1
      clear hxy1 cx2 cy2 cx3 cy3
      go_wp2_with fail
      go_ret
      refine ⟨false, rfl, ⟨fun h => ?_, fun h => ?_⟩, K0.out⟩
      · cases h
      · simp only [Prod.mk.injEq] at h
        exact (HNE.out (by simp only [h])).elim
  · have hq : (x0 == y0) = false := by simpa using hxy0
    have HNE := Lib.hid hxy0
    clear hxy0 cx1 cy1 cx2 cy2 cx3 cy3
    go_wp2_with fail
    go_ret
    refine ⟨false, rfl, ⟨fun h => ?_, fun h => ?_⟩, K0.out⟩
    · cases h
    · simp only [Prod.mk.injEq] at h
      exact (HNE.out (by simp only [h])).elim

set_option maxHeartbeats 16000000 in
theorem eqEvent_any {w : World} {Pb Qb : Nat → Prop} {x y : _} {cs ds : List Value} (hx : eEvent.H Pb w x cs) (hy : eEvent.H Qb w y ds) : Calls Try.prog 17 #[.agg cs.toArray, .agg ds.toArray] w (EqA x y w) := by
  obtain ⟨x0, x1, x2, x3⟩ := x
  obtain ⟨xv, xL, rfl⟩ := hx
  have XL := Lib.hid xL
  obtain ⟨xa, xc, rfl, _⟩ := xL.slice
  obtain ⟨y0, y1, y2, y3⟩ := y
  obtain ⟨yv, yL, rfl⟩ := hy
  have YL := Lib.hid yL
  obtain ⟨ya, yc, rfl, _⟩ := yL.slice
  simp only at XL YL xL yL
  have K0 : Hid (Keep (fun _ => False) w ((w.alloc (.cells #[Value.int .i64 x0, Value.string x1, Value.string x2, .slice xa x3.length xc] 44)).alloc (.cells #[Value.int .i64 y0, Value.string y1, Value.string y2, .slice ya y3.length yc] 44))) := Lib.hid (((Keep.refl _ w).alloc _).alloc _)
  have B1 : Hid (((w.alloc (.cells #[Value.int .i64 x0, Value.string x1, Value.string x2, .slice xa x3.length xc] 44)).alloc (.cells #[Value.int .i64 y0, Value.string y1, Value.string y2, .slice ya y3.length yc] 44)).heap[w.heap.size]? = some (.cells #[Value.int .i64 x0, Value.string x1, Value.string x2, .slice xa x3.length xc] 44 (0, 0))) := Lib.hid ((((Keep.refl (fun _ => False) (w.alloc (.cells #[Value.int .i64 x0, Value.string x1, Value.string x2, .slice xa x3.length xc] 44))).alloc (.cells #[Value.int .i64 y0, Value.string y1, Value.string y2, .slice ya y3.length yc] 44)).block _ (by rw [World.size_alloc]; omega) (fun h => h)).trans (heap_alloc_new w _))
  have B2 : Hid (((w.alloc (.cells #[Value.int .i64 x0, Value.string x1, Value.string x2, .slice xa x3.length xc] 44)).alloc (.cells #[Value.int .i64 y0, Value.string y1, Value.string y2, .slice ya y3.length yc] 44)).heap[w.heap.size + 1]? = some (.cells #[Value.int .i64 y0, Value.string y1, Value.string y2, .slice ya y3.length yc] 44 (0, 0))) := Lib.hid (by have h9 := heap_alloc_new (w.alloc (.cells #[Value.int .i64 x0, Value.string x1, Value.string x2, .slice xa x3.length xc] 44)) (.cells #[Value.int .i64 y0, Value.string y1, Value.string y2, .slice ya y3.length yc] 44); rwa [World.size_alloc] at h9)
  have cx0 : _ = some (Value.int .i64 x0) := (cell_of_row _ _ 0 _ _ _ B1.out).trans rfl
  have cy0 : _ = some (Value.int .i64 y0) := (cell_of_row _ _ 0 _ _ _ B2.out).trans rfl
  have cx1 : _ = some (Value.string x1) := (cell_of_row _ _ 1 _ _ _ B1.out).trans rfl
  have cy1 : _ = some (Value.string y1) := (cell_of_row _ _ 1 _ _ _ B2.out).trans rfl
  have cx2 : _ = some (Value.string x2) := (cell_of_row _ _ 2 _ _ _ B1.out).trans rfl
  have cy2 : _ = some (Value.string y2) := (cell_of_row _ _ 2 _ _ _ B2.out).trans rfl
  have cx3 : _ = some (Value.slice xa x3.length xc) := (cell_of_row _ _ 3 _ _ _ B1.out).trans rfl
  have cy3 : _ = some (Value.slice ya y3.length yc) := (cell_of_row _ _ 3 _ _ _ B2.out).trans rfl
  clear xL yL
  go_enter Try.func17, Try.ntmps17
  by_cases hxy0 : x0 = y0
  · subst hxy0
    by_cases hxy1 : x1 = y1
    · subst hxy1
      by_cases hxy2 : x2 = y2
      · subst hxy2
        go_wp2_with fail
        refine (eqInts_any (XL.out.keep K0.out (fun _ _ _ h => h)) (YL.out.keep K0.out (fun _ _ _ h => h))).mono ?_
        rintro e w1 ⟨b1, rfl, hb1, hk1⟩
        have K1 := Lib.hid (K0.out.trans hk1 (fun _ h => h.elim))
        have D1x1 := Lib.hid ((hk1.block _ (lt_of_block B1.out) (fun h => h)).trans B1.out)
        have D2x1 := Lib.hid ((hk1.block _ (lt_of_block B2.out) (fun h => h)).trans B2.out)
        have HBX1 := Lib.hid hb1
        clear hk1 hb1 cx0 cy0 cx1 cy1 cx2 cy2 cx3 cy3
        go_wp2_with fail
        go_ret
        refine ⟨b1, rfl, ⟨fun h => ?_, fun h => ?_⟩, K1.out⟩
        · rw [HBX1.out.1 h]
        · simp only [Prod.mk.injEq] at h
          exact HBX1.out.2 (by simp only [h])
      · have hq : (x2.toList == y2.toList) = false := str_ne hxy2
        have HNE := Lib.hid hxy2
        clear hxy2 cx3 cy3
        go_wp2_with fail
        go_ret
        refine ⟨false, rfl, ⟨fun h => ?_, fun h => ?_⟩, K0.out⟩
        · cases h
        · simp only [Prod.mk.injEq] at h
          exact (HNE.out (by simp only [h])).elim
    · have hq : (x1.toList == y1.toList) = false := str_ne hxy1
      have HNE := Lib.hid hxy1
      clear hxy1 cx2 cy2 cx3 cy3
      go_wp2_with fail
      go_ret
      refine ⟨false, rfl, ⟨fun h => ?_, fun h => ?_⟩, K0.out⟩
      · cases h
      · simp only [Prod.mk.injEq] at h
        exact (HNE.out (by simp only [h])).elim
  · have hq : (x0 == y0) = false := by simpa using hxy0
    have HNE := Lib.hid hxy0
    clear hxy0 cx1 cy1 cx2 cy2 cx3 cy3
    go_wp2_with fail
    go_ret
    refine ⟨false, rfl, ⟨fun h => ?_, fun h => ?_⟩, K0.out⟩
    · cases h
    · simp only [Prod.mk.injEq] at h
      exact (HNE.out (by simp only [h])).elim

set_option maxHeartbeats 16000000 in
theorem rEqEvent_any {w : World} {Pb Qb : Nat → Prop} {x y : _} {cs ds : List Value} (hx : eEvent.H Pb w x cs) (hy : eEvent.H Qb w y ds) : Calls Try.prog 16 #[.agg cs.toArray, .agg ds.toArray] w (EqA x y w) := by
  obtain ⟨x0, x1, x2, x3⟩ := x
  obtain ⟨xv, xL, rfl⟩ := hx
  have XL := Lib.hid xL
  obtain ⟨xa, xc, rfl, _⟩ := xL.slice
  obtain ⟨y0, y1, y2, y3⟩ := y
  obtain ⟨yv, yL, rfl⟩ := hy
  have YL := Lib.hid yL
  obtain ⟨ya, yc, rfl, _⟩ := yL.slice
  simp only at XL YL xL yL
  have K0 : Hid (Keep (fun _ => False) w ((w.alloc (.cells #[Value.int .i64 x0, Value.string x1, Value.string x2, .slice xa x3.length xc] 44)).alloc (.cells #[Value.int .i64 y0, Value.string y1, Value.string y2, .slice ya y3.length yc] 44))) := Lib.hid (((Keep.refl _ w).alloc _).alloc _)
  have B1 : Hid (((w.alloc (.cells #[Value.int .i64 x0, Value.string x1, Value.string x2, .slice xa x3.length xc] 44)).alloc (.cells #[Value.int .i64 y0, Value.string y1, Value.string y2, .slice ya y3.length yc] 44)).heap[w.heap.size]? = some (.cells #[Value.int .i64 x0, Value.string x1, Value.string x2, .slice xa x3.length xc] 44 (0, 0))) := Lib.hid ((((Keep.refl (fun _ => False) (w.alloc (.cells #[Value.int .i64 x0, Value.string x1, Value.string x2, .slice xa x3.length xc] 44))).alloc (.cells #[Value.int .i64 y0, Value.string y1, Value.string y2, .slice ya y3.length yc] 44)).block _ (by rw [World.size_alloc]; omega) (fun h => h)).trans (heap_alloc_new w _))
  have B2 : Hid (((w.alloc (.cells #[Value.int .i64 x0, Value.string x1, Value.string x2, .slice xa x3.length xc] 44)).alloc (.cells #[Value.int .i64 y0, Value.string y1, Value.string y2, .slice ya y3.length yc] 44)).heap[w.heap.size + 1]? = some (.cells #[Value.int .i64 y0, Value.string y1, Value.string y2, .slice ya y3.length yc] 44 (0, 0))) := Lib.hid (by have h9 := heap_alloc_new (w.alloc (.cells #[Value.int .i64 x0, Value.string x1, Value.string x2, .slice xa x3.length xc] 44)) (.cells #[Value.int .i64 y0, Value.string y1, Value.string y2, .slice ya y3.length yc] 44); rwa [World.size_alloc] at h9)
  have cx0 : _ = some (Value.int .i64 x0) := (cell_of_row _ _ 0 _ _ _ B1.out).trans rfl
  have cy0 : _ = some (Value.int .i64 y0) := (cell_of_row _ _ 0 _ _ _ B2.out).trans rfl
  have cx1 : _ = some (Value.string x1) := (cell_of_row _ _ 1 _ _ _ B1.out).trans rfl
  have cy1 : _ = some (Value.string y1) := (cell_of_row _ _ 1 _ _ _ B2.out).trans rfl
  have cx2 : _ = some (Value.string x2) := (cell_of_row _ _ 2 _ _ _ B1.out).trans rfl
  have cy2 : _ = some (Value.string y2) := (cell_of_row _ _ 2 _ _ _ B2.out).trans rfl
  have cx3 : _ = some (Value.slice xa x3.length xc) := (cell_of_row _ _ 3 _ _ _ B1.out).trans rfl
  have cy3 : _ = some (Value.slice ya y3.length yc) := (cell_of_row _ _ 3 _ _ _ B2.out).trans rfl
  clear xL yL
  go_enter Try.func16, Try.ntmps16
  by_cases hxy0 : x0 = y0
  · subst hxy0
    by_cases hxy1 : x1 = y1
    · subst hxy1
      by_cases hxy2 : x2 = y2
      · subst hxy2
        go_wp2_with fail
        refine (rInts_any (XL.out.keep K0.out (fun _ _ _ h => h)) (YL.out.keep K0.out (fun _ _ _ h => h))).mono ?_
        rintro e w1 ⟨b1, rfl, hb1, hk1⟩
        have K1 := Lib.hid (K0.out.trans hk1 (fun _ h => h.elim))
        have D1x1 := Lib.hid ((hk1.block _ (lt_of_block B1.out) (fun h => h)).trans B1.out)
        have D2x1 := Lib.hid ((hk1.block _ (lt_of_block B2.out) (fun h => h)).trans B2.out)
        have HBX1 := Lib.hid hb1
        clear hk1 hb1 cx0 cy0 cx1 cy1 cx2 cy2 cx3 cy3
        go_wp2_with fail
        go_ret
        refine ⟨b1, rfl, ⟨fun h => ?_, fun h => ?_⟩, K1.out⟩
        · rw [HBX1.out.1 h]
        · simp only [Prod.mk.injEq] at h
          exact HBX1.out.2 (by simp only [h])
      · have hq : (x2.toList == y2.toList) = false := str_ne hxy2
        have HNE := Lib.hid hxy2
        clear hxy2 cx3 cy3
        go_wp2_with fail
        go_ret
        refine ⟨false, rfl, ⟨fun h => ?_, fun h => ?_⟩, K0.out⟩
        · cases h
        · simp only [Prod.mk.injEq] at h
          exact (HNE.out (by simp only [h])).elim
    · have hq : (x1.toList == y1.toList) = false := str_ne hxy1
      have HNE := Lib.hid hxy1
      clear hxy1 cx2 cy2 cx3 cy3
      go_wp2_with fail
      go_ret
      refine ⟨false, rfl, ⟨fun h => ?_, fun h => ?_⟩, K0.out⟩
      · cases h
      · simp only [Prod.mk.injEq] at h
        exact (HNE.out (by simp only [h])).elim
  · have hq : (x0 == y0) = false := by simpa using hxy0
    have HNE := Lib.hid hxy0
    clear hxy0 cx1 cy1 cx2 cy2 cx3 cy3
    go_wp2_with fail
    go_ret
    refine ⟨false, rfl, ⟨fun h => ?_, fun h => ?_⟩, K0.out⟩
    · cases h
    · simp only [Prod.mk.injEq] at h
      exact (HNE.out (by simp only [h])).elim

end Go.Proofs.Ytpefkellcigpkaa.Cd
