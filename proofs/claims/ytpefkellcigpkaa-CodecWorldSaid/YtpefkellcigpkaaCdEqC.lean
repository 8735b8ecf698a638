/- codec: characters, compared. -/
import Derived.Test.YtpefkellcigpkaaCdEqI
namespace Go.Proofs.Ytpefkellcigpkaa.Cd
open Go.RowKit Go.Proofs.Ytpefkellcigpkaa
set_option maxRecDepth 100000

set_option maxHeartbeats 16000000 in
theorem sameChar_any {w : World} {Pb Qb : Nat → Prop} {x y : _} {cs ds : List Value} (hx : eChar.H Pb w x cs) (hy : eChar.H Qb w y ds) : Calls Try.prog 52 #[.agg cs.toArray, .agg ds.toArray] w (EqA x y w) := by
  obtain ⟨x0, x1, x2, x3, x4, x5, x6, x7, x8, x9⟩ := x
  obtain ⟨xv, xL, rfl⟩ := hx
  have XL := Lib.hid xL
  obtain ⟨xa, xc, rfl, _⟩ := xL.slice
  obtain ⟨y0, y1, y2, y3, y4, y5, y6, y7, y8, y9⟩ := y
  obtain ⟨yv, yL, rfl⟩ := hy
  have YL := Lib.hid yL
  obtain ⟨ya, yc, rfl, _⟩ := yL.slice
  simp only at XL YL xL yL
  have K0 : Hid (Keep (fun _ => False) w ((w.alloc (.cells #[Value.string x0, Value.string x1, Value.bool x2, Value.int .i64 x3, Value.int .i64 x4, Value.int .i64 x5, Value.int .i64 x6, Value.int .i64 x7, Value.int .i64 x8, .slice xa x9.length xc] 58)).alloc (.cells #[Value.string y0, Value.string y1, Value.bool y2, Value.int .i64 y3, Value.int .i64 y4, Value.int .i64 y5, Value.int .i64 y6, Value.int .i64 y7, Value.int .i64 y8, .slice ya y9.length yc] 58))) := Lib.hid (((Keep.refl _ w).alloc _).alloc _)
  have B1 : Hid (((w.alloc (.cells #[Value.string x0, Value.string x1, Value.bool x2, Value.int .i64 x3, Value.int .i64 x4, Value.int .i64 x5, Value.int .i64 x6, Value.int .i64 x7, Value.int .i64 x8, .slice xa x9.length xc] 58)).alloc (.cells #[Value.string y0, Value.string y1, Value.bool y2, Value.int .i64 y3, Value.int .i64 y4, Value.int .i64 y5, Value.int .i64 y6, Value.int .i64 y7, Value.int .i64 y8, .slice ya y9.length yc] 58)).heap[w.heap.size]? = some (.cells #[Value.string x0, Value.string x1, Value.bool x2, Value.int .i64 x3, Value.int .i64 x4, Value.int .i64 x5, Value.int .i64 x6, Value.int .i64 x7, Value.int .i64 x8, .slice xa x9.length xc] 58 (0, 0))) := Lib.hid ((((Keep.refl (fun _ => False) (w.alloc (.cells #[Value.string x0, Value.string x1, Value.bool x2, Value.int .i64 x3, Value.int .i64 x4, Value.int .i64 x5, Value.int .i64 x6, Value.int .i64 x7, Value.int .i64 x8, .slice xa x9.length xc] 58))).alloc (.cells #[Value.string y0, Value.string y1, Value.bool y2, Value.int .i64 y3, Value.int .i64 y4, Value.int .i64 y5, Value.int .i64 y6, Value.int .i64 y7, Value.int .i64 y8, .slice ya y9.length yc] 58)).block _ (by rw [World.size_alloc]; omega) (fun h => h)).trans (heap_alloc_new w _))
  have B2 : Hid (((w.alloc (.cells #[Value.string x0, Value.string x1, Value.bool x2, Value.int .i64 x3, Value.int .i64 x4, Value.int .i64 x5, Value.int .i64 x6, Value.int .i64 x7, Value.int .i64 x8, .slice xa x9.length xc] 58)).alloc (.cells #[Value.string y0, Value.string y1, Value.bool y2, Value.int .i64 y3, Value.int .i64 y4, Value.int .i64 y5, Value.int .i64 y6, Value.int .i64 y7, Value.int .i64 y8, .slice ya y9.length yc] 58)).heap[w.heap.size + 1]? = some (.cells #[Value.string y0, Value.string y1, Value.bool y2, Value.int .i64 y3, Value.int .i64 y4, Value.int .i64 y5, Value.int .i64 y6, Value.int .i64 y7, Value.int .i64 y8, .slice ya y9.length yc] 58 (0, 0))) := Lib.hid (by have h9 := heap_alloc_new (w.alloc (.cells #[Value.string x0, Value.string x1, Value.bool x2, Value.int .i64 x3, Value.int .i64 x4, Value.int .i64 x5, Value.int .i64 x6, Value.int .i64 x7, Value.int .i64 x8, .slice xa x9.length xc] 58)) (.cells #[Value.string y0, Value.string y1, Value.bool y2, Value.int .i64 y3, Value.int .i64 y4, Value.int .i64 y5, Value.int .i64 y6, Value.int .i64 y7, Value.int .i64 y8, .slice ya y9.length yc] 58); rwa [World.size_alloc] at h9)
  have cx0 : _ = some (Value.string x0) := (cell_of_row _ _ 0 _ _ _ B1.out).trans rfl
  have cy0 : _ = some (Value.string y0) := (cell_of_row _ _ 0 _ _ _ B2.out).trans rfl
  have cx1 : _ = some (Value.string x1) := (cell_of_row _ _ 1 _ _ _ B1.out).trans rfl
  have cy1 : _ = some (Value.string y1) := (cell_of_row _ _ 1 _ _ _ B2.out).trans rfl
  have cx2 : _ = some (Value.bool x2) := (cell_of_row _ _ 2 _ _ _ B1.out).trans rfl
  have cy2 : _ = some (Value.bool y2) := (cell_of_row _ _ 2 _ _ _ B2.out).trans rfl
  have cx3 : _ = some (Value.int .i64 x3) := (cell_of_row _ _ 3 _ _ _ B1.out).trans rfl
  have cy3 : _ = some (Value.int .i64 y3) := (cell_of_row _ _ 3 _ _ _ B2.out).trans rfl
  have cx4 : _ = some (Value.int .i64 x4) := (cell_of_row _ _ 4 _ _ _ B1.out).trans rfl
  have cy4 : _ = some (Value.int .i64 y4) := (cell_of_row _ _ 4 _ _ _ B2.out).trans rfl
  have cx5 : _ = some (Value.int .i64 x5) := (cell_of_row _ _ 5 _ _ _ B1.out).trans rfl
  have cy5 : _ = some (Value.int .i64 y5) := (cell_of_row _ _ 5 _ _ _ B2.out).trans rfl
  have cx6 : _ = some (Value.int .i64 x6) := (cell_of_row _ _ 6 _ _ _ B1.out).trans rfl
  have cy6 : _ = some (Value.int .i64 y6) := (cell_of_row _ _ 6 _ _ _ B2.out).trans rfl
  have cx7 : _ = some (Value.int .i64 x7) := (cell_of_row _ _ 7 _ _ _ B1.out).trans rfl
  have cy7 : _ = some (Value.int .i64 y7) := (cell_of_row _ _ 7 _ _ _ B2.out).trans rfl
  have cx8 : _ = some (Value.int .i64 x8) := (cell_of_row _ _ 8 _ _ _ B1.out).trans rfl
  have cy8 : _ = some (Value.int .i64 y8) := (cell_of_row _ _ 8 _ _ _ B2.out).trans rfl
  have cx9 : _ = some (Value.slice xa x9.length xc) := (cell_of_row _ _ 9 _ _ _ B1.out).trans rfl
  have cy9 : _ = some (Value.slice ya y9.length yc) := (cell_of_row _ _ 9 _ _ _ B2.out).trans rfl
  clear xL yL
  go_enter Try.func52, Try.ntmps52
  by_cases hxy0 : x0 = y0
  · subst hxy0
    by_cases hxy1 : x1 = y1
    · subst hxy1
      by_cases hxy2 : x2 = y2
      · subst hxy2
        by_cases hxy3 : x3 = y3
        · subst hxy3
          by_cases hxy4 : x4 = y4
          · subst hxy4
            by_cases hxy5 : x5 = y5
            · subst hxy5
              by_cases hxy6 : x6 = y6
              · subst hxy6
                by_cases hxy7 : x7 = y7
                · subst hxy7
                  by_cases hxy8 : x8 = y8
                  · subst hxy8
                    go_wp2_with fail
                    refine (eqInts_any (XL.out.keep K0.out (fun _ _ _ h => h)) (YL.out.keep K0.out (fun _ _ _ h => h))).mono ?_
                    rintro e w1 ⟨b1, rfl, hb1, hk1⟩
                    have K1 := Lib.hid (K0.out.trans hk1 (fun _ h => h.elim))
                    have D1x1 := Lib.hid ((hk1.block _ (lt_of_block B1.out) (fun h => h)).trans B1.out)
                    have D2x1 := Lib.hid ((hk1.block _ (lt_of_block B2.out) (fun h => h)).trans B2.out)
                    have HBX1 := Lib.hid hb1
                    clear hk1 hb1 cx0 cy0 cx1 cy1 cx2 cy2 cx3 cy3 cx4 cy4 cx5 cy5 cx6 cy6 cx7 cy7 cx8 cy8 cx9 cy9
                    go_wp2_with fail
                    go_ret
                    refine ⟨b1, rfl, ⟨fun h => ?_, fun h => ?_⟩, K1.out⟩
                    · rw [HBX1.out.1 h]
                    · simp only [Prod.mk.injEq] at h
                      exact HBX1.out.2 (by simp only [h])
                  · have hq : (x8 == y8) = false := by simpa using hxy8
                    have HNE := Lib.hid hxy8
                    clear hxy8 cx9 cy9
                    go_wp2_with fail
                    go_ret
                    refine ⟨false, rfl, ⟨fun h => ?_, fun h => ?_⟩, K0.out⟩
                    · cases h
                    · simp only [Prod.mk.injEq] at h
                      exact (HNE.out (by simp only [h])).elim
                · have hq : (x7 == y7) = false := by simpa using hxy7
                  have HNE := Lib.hid hxy7
                  clear hxy7 cx8 cy8 cx9 cy9
                  go_wp2_with fail
                  go_ret
                  refine ⟨false, rfl, ⟨fun h => ?_, fun h => ?_⟩, K0.out⟩
                  · cases h
                  · simp only [Prod.mk.injEq] at h
                    exact (HNE.out (by simp only [h])).elim
              · have hq : (x6 == y6) = false := by simpa using hxy6
                have HNE := Lib.hid hxy6
                clear hxy6 cx7 cy7 cx8 cy8 cx9 cy9
                go_wp2_with fail
                go_ret
                refine ⟨false, rfl, ⟨fun h => ?_, fun h => ?_⟩, K0.out⟩
                · cases h
                · simp only [Prod.mk.injEq] at h
                  exact (HNE.out (by simp only [h])).elim
            · have hq : (x5 == y5) = false := by simpa using hxy5
              have HNE := Lib.hid hxy5
              clear hxy5 cx6 cy6 cx7 cy7 cx8 cy8 cx9 cy9
              go_wp2_with fail
              go_ret
              refine ⟨false, rfl, ⟨fun h => ?_, fun h => ?_⟩, K0.out⟩
              · cases h
              · simp only [Prod.mk.injEq] at h
                exact (HNE.out (by simp only [h])).elim
          · have hq : (x4 == y4) = false := by simpa using hxy4
            have HNE := Lib.hid hxy4
            clear hxy4 cx5 cy5 cx6 cy6 cx7 cy7 cx8 cy8 cx9 cy9
            go_wp2_with fail
            go_ret
            refine ⟨false, rfl, ⟨fun h => ?_, fun h => ?_⟩, K0.out⟩
            · cases h
            · simp only [Prod.mk.injEq] at h
              exact (HNE.out (by simp only [h])).elim
        · have hq : (x3 == y3) = false := by simpa using hxy3
          have HNE := Lib.hid hxy3
          clear hxy3 cx4 cy4 cx5 cy5 cx6 cy6 cx7 cy7 cx8 cy8 cx9 cy9
          go_wp2_with fail
          go_ret
          refine ⟨false, rfl, ⟨fun h => ?_, fun h => ?_⟩, K0.out⟩
          · cases h
          · simp only [Prod.mk.injEq] at h
            exact (HNE.out (by simp only [h])).elim
      · have hq : (x2 == y2) = false := by simpa using hxy2
        have HNE := Lib.hid hxy2
        clear hxy2 cx3 cy3 cx4 cy4 cx5 cy5 cx6 cy6 cx7 cy7 cx8 cy8 cx9 cy9
        go_wp2_with fail
        go_ret
        refine ⟨false, rfl, ⟨fun h => ?_, fun h => ?_⟩, K0.out⟩
        · cases h
        · simp only [Prod.mk.injEq] at h
          exact (HNE.out (by simp only [h])).elim
    · have hq : (x1.toList == y1.toList) = false := str_ne hxy1
      have HNE := Lib.hid hxy1
      clear hxy1 cx2 cy2 cx3 cy3 cx4 cy4 cx5 cy5 cx6 cy6 cx7 cy7 cx8 cy8 cx9 cy9
      go_wp2_with fail
      go_ret
      refine ⟨false, rfl, ⟨fun h => ?_, fun h => ?_⟩, K0.out⟩
      · cases h
      · simp only [Prod.mk.injEq] at h
        exact (HNE.out (by simp only [h])).elim
  · have hq : (x0.toList == y0.toList) = false := str_ne hxy0
    have HNE := Lib.hid hxy0
    clear hxy0 cx1 cy1 cx2 cy2 cx3 cy3 cx4 cy4 cx5 cy5 cx6 cy6 cx7 cy7 cx8 cy8 cx9 cy9
    go_wp2_with fail
    go_ret
    refine ⟨false, rfl, ⟨fun h => ?_, fun h => ?_⟩, K0.out⟩
    · cases h
    · simp only [Prod.mk.injEq] at h
      exact (HNE.out (by simp only [h])).elim

end Go.Proofs.Ytpefkellcigpkaa.Cd
