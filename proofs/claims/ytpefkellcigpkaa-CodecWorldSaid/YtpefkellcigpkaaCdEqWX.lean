/- codec: EqWorld, in one case and another. -/
import Derived.Test.YtpefkellcigpkaaCdLex
import Derived.Test.YtpefkellcigpkaaCdEq1
import Derived.Test.YtpefkellcigpkaaCdEqF
import Derived.Test.YtpefkellcigpkaaCdEqK
namespace Go.Proofs.Ytpefkellcigpkaa.Cd
open Go.RowKit Go.Proofs.Ytpefkellcigpkaa
set_option maxRecDepth 100000

set_option maxHeartbeats 16000000 in
theorem eqw_0 {w : World} {Pb Qb : Nat → Prop} {p q : Value} {x0 : Int} {x1 : Int} {x2 : Int} {x3 : List (ByteArray × ByteArray × Bool × Int × Int × Int × Int × Int × Int × List Int)} {x4 : List (Int × Int × Int × Int × ByteArray)} {x5 : List (Int × Int × Int × Int)} {x6 : List (Int × ByteArray × List ByteArray × Int)} {x7 : List (Int × Int × ByteArray × Int × Int × ByteArray × Int)} {x8 : List (Int × Int)} {y0 : Int} {y1 : Int} {y2 : Int} {y3 : List (ByteArray × ByteArray × Bool × Int × Int × Int × Int × Int × Int × List Int)} {y4 : List (Int × Int × Int × Int × ByteArray)} {y5 : List (Int × Int × Int × Int)} {y6 : List (Int × ByteArray × List ByteArray × Int)} {y7 : List (Int × Int × ByteArray × Int × Int × ByteArray × Int)} {y8 : List (Int × Int)} (hx : PAt eWorld Pb w p (x0, x1, x2, x3, x4, x5, x6, x7, x8)) (hy : PAt eWorld Qb w q (y0, y1, y2, y3, y4, y5, y6, y7, y8)) (hne : ¬ x0 = y0) : Calls Try.prog 11 #[p, q] w fun e w' => e = .returned (.bool false) ∧ Keep (fun _ => False) w w' := by
  obtain ⟨g1, g1o, _, rfl, g1l, _, ⟨xv3, xv4, xv5, xv6, xv7, xv8, xl3, xl4, xl5, xl6, xl7, xl8, rfl⟩, g1r⟩ := hx
  have XL3 : Hid (LAt eChar _ w xv3 x3) := Lib.hid xl3
  obtain ⟨xa3, xc3, rfl, _⟩ := xl3.slice
  have XL4 : Hid (LAt eThing _ w xv4 x4) := Lib.hid xl4
  obtain ⟨xa4, xc4, rfl, _⟩ := xl4.slice
  have XL5 : Hid (LAt eMob _ w xv5 x5) := Lib.hid xl5
  obtain ⟨xa5, xc5, rfl, _⟩ := xl5.slice
  have XL6 : Hid (LAt eHouse _ w xv6 x6) := Lib.hid xl6
  obtain ⟨xa6, xc6, rfl, _⟩ := xl6.slice
  have XL7 : Hid (LAt eLot _ w xv7 x7) := Lib.hid xl7
  obtain ⟨xa7, xc7, rfl, _⟩ := xl7.slice
  have XL8 : Hid (LAt eTill _ w xv8 x8) := Lib.hid xl8
  obtain ⟨xa8, xc8, rfl, _⟩ := xl8.slice
  have G1L := Lib.hid g1l
  have G1R := Lib.hid g1r
  clear g1l g1r xl3 xl4 xl5 xl6 xl7 xl8
  obtain ⟨g2, g2o, _, rfl, g2l, _, ⟨yv3, yv4, yv5, yv6, yv7, yv8, yl3, yl4, yl5, yl6, yl7, yl8, rfl⟩, g2r⟩ := hy
  have YL3 : Hid (LAt eChar _ w yv3 y3) := Lib.hid yl3
  obtain ⟨ya3, yc3, rfl, _⟩ := yl3.slice
  have YL4 : Hid (LAt eThing _ w yv4 y4) := Lib.hid yl4
  obtain ⟨ya4, yc4, rfl, _⟩ := yl4.slice
  have YL5 : Hid (LAt eMob _ w yv5 y5) := Lib.hid yl5
  obtain ⟨ya5, yc5, rfl, _⟩ := yl5.slice
  have YL6 : Hid (LAt eHouse _ w yv6 y6) := Lib.hid yl6
  obtain ⟨ya6, yc6, rfl, _⟩ := yl6.slice
  have YL7 : Hid (LAt eLot _ w yv7 y7) := Lib.hid yl7
  obtain ⟨ya7, yc7, rfl, _⟩ := yl7.slice
  have YL8 : Hid (LAt eTill _ w yv8 y8) := Lib.hid yl8
  obtain ⟨ya8, yc8, rfl, _⟩ := yl8.slice
  have G2L := Lib.hid g2l
  have G2R := Lib.hid g2r
  clear g2l g2r yl3 yl4 yl5 yl6 yl7 yl8
  have HNE := Lib.hid hne
  have hq : (x0 == y0) = false := by simpa using hne
  clear hne
  go_enter Try.func11, Try.ntmps11
  go_wp2_with fail
  have cx0 : ∀ n : KW w, n.to.cell? ⟨g1, g1o, none⟩ = some (Value.int .i64 x0) := fun n => (rangeAt_keep G1R.out n.keep G1L.out (fun h => h)) 0 _ rfl
  have cy0 : ∀ n : KW w, n.to.cell? ⟨g2, g2o, none⟩ = some (Value.int .i64 y0) := fun n => (rangeAt_keep G2R.out n.keep G2L.out (fun h => h)) 0 _ rfl
  refine quiet_kw_long (by kernel_rfl) (by kernel_rfl) (by kernel_rfl) ?_
  iterate 11 (go_big_quiet_step (fail))
  as_aux_lemma =>
    iterate 11 (go_big_quiet_step (fail))
    as_aux_lemma =>
      iterate 11 (go_big_quiet_step (fail))
      as_aux_lemma =>
        iterate 11 (go_big_quiet_step (fail))
        as_aux_lemma =>
          iterate 11 (go_big_quiet_step (fail))
          as_aux_lemma =>
            iterate 11 (go_big_quiet_step (fail))
            as_aux_lemma =>
              iterate 11 (go_big_quiet_step (fail))
              as_aux_lemma =>
                iterate 11 (go_big_quiet_step (fail))
                as_aux_lemma =>
                  iterate 10 (go_big_quiet_step (fail))
                  refine wpQuiet_nil ?_
                  intro w7 hw7
                  obtain ⟨nq, rfl⟩ := hw7
                  have HW7 := Lib.hid nq.keep
                  clear cx0 cy0
                  go_wp2_with fail
                  go_ret
                  exact ⟨rfl, HW7.out⟩

set_option maxHeartbeats 16000000 in
theorem eqw_1 {w : World} {Pb Qb : Nat → Prop} {p q : Value} {x0 : Int} {x1 : Int} {x2 : Int} {x3 : List (ByteArray × ByteArray × Bool × Int × Int × Int × Int × Int × Int × List Int)} {x4 : List (Int × Int × Int × Int × ByteArray)} {x5 : List (Int × Int × Int × Int)} {x6 : List (Int × ByteArray × List ByteArray × Int)} {x7 : List (Int × Int × ByteArray × Int × Int × ByteArray × Int)} {x8 : List (Int × Int)} {y1 : Int} {y2 : Int} {y3 : List (ByteArray × ByteArray × Bool × Int × Int × Int × Int × Int × Int × List Int)} {y4 : List (Int × Int × Int × Int × ByteArray)} {y5 : List (Int × Int × Int × Int)} {y6 : List (Int × ByteArray × List ByteArray × Int)} {y7 : List (Int × Int × ByteArray × Int × Int × ByteArray × Int)} {y8 : List (Int × Int)} (hx : PAt eWorld Pb w p (x0, x1, x2, x3, x4, x5, x6, x7, x8)) (hy : PAt eWorld Qb w q (x0, y1, y2, y3, y4, y5, y6, y7, y8)) (hne : ¬ x1 = y1) : Calls Try.prog 11 #[p, q] w fun e w' => e = .returned (.bool false) ∧ Keep (fun _ => False) w w' := by
  obtain ⟨g1, g1o, _, rfl, g1l, _, ⟨xv3, xv4, xv5, xv6, xv7, xv8, xl3, xl4, xl5, xl6, xl7, xl8, rfl⟩, g1r⟩ := hx
  have XL3 : Hid (LAt eChar _ w xv3 x3) := Lib.hid xl3
  obtain ⟨xa3, xc3, rfl, _⟩ := xl3.slice
  have XL4 : Hid (LAt eThing _ w xv4 x4) := Lib.hid xl4
  obtain ⟨xa4, xc4, rfl, _⟩ := xl4.slice
  have XL5 : Hid (LAt eMob _ w xv5 x5) := Lib.hid xl5
  obtain ⟨xa5, xc5, rfl, _⟩ := xl5.slice
  have XL6 : Hid (LAt eHouse _ w xv6 x6) := Lib.hid xl6
  obtain ⟨xa6, xc6, rfl, _⟩ := xl6.slice
  have XL7 : Hid (LAt eLot _ w xv7 x7) := Lib.hid xl7
  obtain ⟨xa7, xc7, rfl, _⟩ := xl7.slice
  have XL8 : Hid (LAt eTill _ w xv8 x8) := Lib.hid xl8
  obtain ⟨xa8, xc8, rfl, _⟩ := xl8.slice
  have G1L := Lib.hid g1l
  have G1R := Lib.hid g1r
  clear g1l g1r xl3 xl4 xl5 xl6 xl7 xl8
  obtain ⟨g2, g2o, _, rfl, g2l, _, ⟨yv3, yv4, yv5, yv6, yv7, yv8, yl3, yl4, yl5, yl6, yl7, yl8, rfl⟩, g2r⟩ := hy
  have YL3 : Hid (LAt eChar _ w yv3 y3) := Lib.hid yl3
  obtain ⟨ya3, yc3, rfl, _⟩ := yl3.slice
  have YL4 : Hid (LAt eThing _ w yv4 y4) := Lib.hid yl4
  obtain ⟨ya4, yc4, rfl, _⟩ := yl4.slice
  have YL5 : Hid (LAt eMob _ w yv5 y5) := Lib.hid yl5
  obtain ⟨ya5, yc5, rfl, _⟩ := yl5.slice
  have YL6 : Hid (LAt eHouse _ w yv6 y6) := Lib.hid yl6
  obtain ⟨ya6, yc6, rfl, _⟩ := yl6.slice
  have YL7 : Hid (LAt eLot _ w yv7 y7) := Lib.hid yl7
  obtain ⟨ya7, yc7, rfl, _⟩ := yl7.slice
  have YL8 : Hid (LAt eTill _ w yv8 y8) := Lib.hid yl8
  obtain ⟨ya8, yc8, rfl, _⟩ := yl8.slice
  have G2L := Lib.hid g2l
  have G2R := Lib.hid g2r
  clear g2l g2r yl3 yl4 yl5 yl6 yl7 yl8
  have HNE := Lib.hid hne
  have hq : (x1 == y1) = false := by simpa using hne
  clear hne
  go_enter Try.func11, Try.ntmps11
  go_wp2_with fail
  have cx0 : ∀ n : KW w, n.to.cell? ⟨g1, g1o, none⟩ = some (Value.int .i64 x0) := fun n => (rangeAt_keep G1R.out n.keep G1L.out (fun h => h)) 0 _ rfl
  have cy0 : ∀ n : KW w, n.to.cell? ⟨g2, g2o, none⟩ = some (Value.int .i64 x0) := fun n => (rangeAt_keep G2R.out n.keep G2L.out (fun h => h)) 0 _ rfl
  have cx1 : ∀ n : KW w, n.to.cell? ⟨g1, g1o + 1, none⟩ = some (Value.int .i64 x1) := fun n => (rangeAt_keep G1R.out n.keep G1L.out (fun h => h)) 1 _ rfl
  have cy1 : ∀ n : KW w, n.to.cell? ⟨g2, g2o + 1, none⟩ = some (Value.int .i64 y1) := fun n => (rangeAt_keep G2R.out n.keep G2L.out (fun h => h)) 1 _ rfl
  refine quiet_kw_long (by kernel_rfl) (by kernel_rfl) (by kernel_rfl) ?_
  iterate 11 (go_big_quiet_step (fail))
  as_aux_lemma =>
    iterate 11 (go_big_quiet_step (fail))
    as_aux_lemma =>
      iterate 11 (go_big_quiet_step (fail))
      as_aux_lemma =>
        iterate 11 (go_big_quiet_step (fail))
        as_aux_lemma =>
          iterate 11 (go_big_quiet_step (fail))
          as_aux_lemma =>
            iterate 11 (go_big_quiet_step (fail))
            as_aux_lemma =>
              iterate 11 (go_big_quiet_step (fail))
              as_aux_lemma =>
                iterate 11 (go_big_quiet_step (fail))
                as_aux_lemma =>
                  iterate 10 (go_big_quiet_step (fail))
                  refine wpQuiet_nil ?_
                  intro w7 hw7
                  obtain ⟨nq, rfl⟩ := hw7
                  have HW7 := Lib.hid nq.keep
                  clear cx0 cy0 cx1 cy1
                  go_wp2_with fail
                  go_ret
                  exact ⟨rfl, HW7.out⟩

set_option maxHeartbeats 16000000 in
theorem eqw_2 {w : World} {Pb Qb : Nat → Prop} {p q : Value} {x0 : Int} {x1 : Int} {x2 : Int} {x3 : List (ByteArray × ByteArray × Bool × Int × Int × Int × Int × Int × Int × List Int)} {x4 : List (Int × Int × Int × Int × ByteArray)} {x5 : List (Int × Int × Int × Int)} {x6 : List (Int × ByteArray × List ByteArray × Int)} {x7 : List (Int × Int × ByteArray × Int × Int × ByteArray × Int)} {x8 : List (Int × Int)} {y2 : Int} {y3 : List (ByteArray × ByteArray × Bool × Int × Int × Int × Int × Int × Int × List Int)} {y4 : List (Int × Int × Int × Int × ByteArray)} {y5 : List (Int × Int × Int × Int)} {y6 : List (Int × ByteArray × List ByteArray × Int)} {y7 : List (Int × Int × ByteArray × Int × Int × ByteArray × Int)} {y8 : List (Int × Int)} (hx : PAt eWorld Pb w p (x0, x1, x2, x3, x4, x5, x6, x7, x8)) (hy : PAt eWorld Qb w q (x0, x1, y2, y3, y4, y5, y6, y7, y8)) (hne : ¬ x2 = y2) : Calls Try.prog 11 #[p, q] w fun e w' => e = .returned (.bool false) ∧ Keep (fun _ => False) w w' := by
  obtain ⟨g1, g1o, _, rfl, g1l, _, ⟨xv3, xv4, xv5, xv6, xv7, xv8, xl3, xl4, xl5, xl6, xl7, xl8, rfl⟩, g1r⟩ := hx
  have XL3 : Hid (LAt eChar _ w xv3 x3) := Lib.hid xl3
  obtain ⟨xa3, xc3, rfl, _⟩ := xl3.slice
  have XL4 : Hid (LAt eThing _ w xv4 x4) := Lib.hid xl4
  obtain ⟨xa4, xc4, rfl, _⟩ := xl4.slice
  have XL5 : Hid (LAt eMob _ w xv5 x5) := Lib.hid xl5
  obtain ⟨xa5, xc5, rfl, _⟩ := xl5.slice
  have XL6 : Hid (LAt eHouse _ w xv6 x6) := Lib.hid xl6
  obtain ⟨xa6, xc6, rfl, _⟩ := xl6.slice
  have XL7 : Hid (LAt eLot _ w xv7 x7) := Lib.hid xl7
  obtain ⟨xa7, xc7, rfl, _⟩ := xl7.slice
  have XL8 : Hid (LAt eTill _ w xv8 x8) := Lib.hid xl8
  obtain ⟨xa8, xc8, rfl, _⟩ := xl8.slice
  have G1L := Lib.hid g1l
  have G1R := Lib.hid g1r
  clear g1l g1r xl3 xl4 xl5 xl6 xl7 xl8
  obtain ⟨g2, g2o, _, rfl, g2l, _, ⟨yv3, yv4, yv5, yv6, yv7, yv8, yl3, yl4, yl5, yl6, yl7, yl8, rfl⟩, g2r⟩ := hy
  have YL3 : Hid (LAt eChar _ w yv3 y3) := Lib.hid yl3
  obtain ⟨ya3, yc3, rfl, _⟩ := yl3.slice
  have YL4 : Hid (LAt eThing _ w yv4 y4) := Lib.hid yl4
  obtain ⟨ya4, yc4, rfl, _⟩ := yl4.slice
  have YL5 : Hid (LAt eMob _ w yv5 y5) := Lib.hid yl5
  obtain ⟨ya5, yc5, rfl, _⟩ := yl5.slice
  have YL6 : Hid (LAt eHouse _ w yv6 y6) := Lib.hid yl6
  obtain ⟨ya6, yc6, rfl, _⟩ := yl6.slice
  have YL7 : Hid (LAt eLot _ w yv7 y7) := Lib.hid yl7
  obtain ⟨ya7, yc7, rfl, _⟩ := yl7.slice
  have YL8 : Hid (LAt eTill _ w yv8 y8) := Lib.hid yl8
  obtain ⟨ya8, yc8, rfl, _⟩ := yl8.slice
  have G2L := Lib.hid g2l
  have G2R := Lib.hid g2r
  clear g2l g2r yl3 yl4 yl5 yl6 yl7 yl8
  have HNE := Lib.hid hne
  have hq : (x2 == y2) = false := by simpa using hne
  clear hne
  go_enter Try.func11, Try.ntmps11
  go_wp2_with fail
  have cx0 : ∀ n : KW w, n.to.cell? ⟨g1, g1o, none⟩ = some (Value.int .i64 x0) := fun n => (rangeAt_keep G1R.out n.keep G1L.out (fun h => h)) 0 _ rfl
  have cy0 : ∀ n : KW w, n.to.cell? ⟨g2, g2o, none⟩ = some (Value.int .i64 x0) := fun n => (rangeAt_keep G2R.out n.keep G2L.out (fun h => h)) 0 _ rfl
  have cx1 : ∀ n : KW w, n.to.cell? ⟨g1, g1o + 1, none⟩ = some (Value.int .i64 x1) := fun n => (rangeAt_keep G1R.out n.keep G1L.out (fun h => h)) 1 _ rfl
  have cy1 : ∀ n : KW w, n.to.cell? ⟨g2, g2o + 1, none⟩ = some (Value.int .i64 x1) := fun n => (rangeAt_keep G2R.out n.keep G2L.out (fun h => h)) 1 _ rfl
  have cx2 : ∀ n : KW w, n.to.cell? ⟨g1, g1o + 2, none⟩ = some (Value.int .i64 x2) := fun n => (rangeAt_keep G1R.out n.keep G1L.out (fun h => h)) 2 _ rfl
  have cy2 : ∀ n : KW w, n.to.cell? ⟨g2, g2o + 2, none⟩ = some (Value.int .i64 y2) := fun n => (rangeAt_keep G2R.out n.keep G2L.out (fun h => h)) 2 _ rfl
  refine quiet_kw_long (by kernel_rfl) (by kernel_rfl) (by kernel_rfl) ?_
  iterate 11 (go_big_quiet_step (fail))
  as_aux_lemma =>
    iterate 11 (go_big_quiet_step (fail))
    as_aux_lemma =>
      iterate 11 (go_big_quiet_step (fail))
      as_aux_lemma =>
        iterate 11 (go_big_quiet_step (fail))
        as_aux_lemma =>
          iterate 11 (go_big_quiet_step (fail))
          as_aux_lemma =>
            iterate 11 (go_big_quiet_step (fail))
            as_aux_lemma =>
              iterate 11 (go_big_quiet_step (fail))
              as_aux_lemma =>
                iterate 11 (go_big_quiet_step (fail))
                as_aux_lemma =>
                  iterate 10 (go_big_quiet_step (fail))
                  refine wpQuiet_nil ?_
                  intro w7 hw7
                  obtain ⟨nq, rfl⟩ := hw7
                  have HW7 := Lib.hid nq.keep
                  clear cx0 cy0 cx1 cy1 cx2 cy2
                  go_wp2_with fail
                  go_ret
                  exact ⟨rfl, HW7.out⟩

set_option maxHeartbeats 16000000 in
theorem eqw_3 {w : World} {Pb Qb : Nat → Prop} {p q : Value} {x0 : Int} {x1 : Int} {x2 : Int} {x3 : List (ByteArray × ByteArray × Bool × Int × Int × Int × Int × Int × Int × List Int)} {x4 : List (Int × Int × Int × Int × ByteArray)} {x5 : List (Int × Int × Int × Int)} {x6 : List (Int × ByteArray × List ByteArray × Int)} {x7 : List (Int × Int × ByteArray × Int × Int × ByteArray × Int)} {x8 : List (Int × Int)} {y3 : List (ByteArray × ByteArray × Bool × Int × Int × Int × Int × Int × Int × List Int)} {y4 : List (Int × Int × Int × Int × ByteArray)} {y5 : List (Int × Int × Int × Int)} {y6 : List (Int × ByteArray × List ByteArray × Int)} {y7 : List (Int × Int × ByteArray × Int × Int × ByteArray × Int)} {y8 : List (Int × Int)} (hx : PAt eWorld Pb w p (x0, x1, x2, x3, x4, x5, x6, x7, x8)) (hy : PAt eWorld Qb w q (x0, x1, x2, y3, y4, y5, y6, y7, y8)) (hne : ¬ x3 = y3) : Calls Try.prog 11 #[p, q] w fun e w' => e = .returned (.bool false) ∧ Keep (fun _ => False) w w' := by
  obtain ⟨g1, g1o, _, rfl, g1l, _, ⟨xv3, xv4, xv5, xv6, xv7, xv8, xl3, xl4, xl5, xl6, xl7, xl8, rfl⟩, g1r⟩ := hx
  have XL3 : Hid (LAt eChar _ w xv3 x3) := Lib.hid xl3
  obtain ⟨xa3, xc3, rfl, _⟩ := xl3.slice
  have XL4 : Hid (LAt eThing _ w xv4 x4) := Lib.hid xl4
  obtain ⟨xa4, xc4, rfl, _⟩ := xl4.slice
  have XL5 : Hid (LAt eMob _ w xv5 x5) := Lib.hid xl5
  obtain ⟨xa5, xc5, rfl, _⟩ := xl5.slice
  have XL6 : Hid (LAt eHouse _ w xv6 x6) := Lib.hid xl6
  obtain ⟨xa6, xc6, rfl, _⟩ := xl6.slice
  have XL7 : Hid (LAt eLot _ w xv7 x7) := Lib.hid xl7
  obtain ⟨xa7, xc7, rfl, _⟩ := xl7.slice
  have XL8 : Hid (LAt eTill _ w xv8 x8) := Lib.hid xl8
  obtain ⟨xa8, xc8, rfl, _⟩ := xl8.slice
  have G1L := Lib.hid g1l
  have G1R := Lib.hid g1r
  clear g1l g1r xl3 xl4 xl5 xl6 xl7 xl8
  obtain ⟨g2, g2o, _, rfl, g2l, _, ⟨yv3, yv4, yv5, yv6, yv7, yv8, yl3, yl4, yl5, yl6, yl7, yl8, rfl⟩, g2r⟩ := hy
  have YL3 : Hid (LAt eChar _ w yv3 y3) := Lib.hid yl3
  obtain ⟨ya3, yc3, rfl, _⟩ := yl3.slice
  have YL4 : Hid (LAt eThing _ w yv4 y4) := Lib.hid yl4
  obtain ⟨ya4, yc4, rfl, _⟩ := yl4.slice
  have YL5 : Hid (LAt eMob _ w yv5 y5) := Lib.hid yl5
  obtain ⟨ya5, yc5, rfl, _⟩ := yl5.slice
  have YL6 : Hid (LAt eHouse _ w yv6 y6) := Lib.hid yl6
  obtain ⟨ya6, yc6, rfl, _⟩ := yl6.slice
  have YL7 : Hid (LAt eLot _ w yv7 y7) := Lib.hid yl7
  obtain ⟨ya7, yc7, rfl, _⟩ := yl7.slice
  have YL8 : Hid (LAt eTill _ w yv8 y8) := Lib.hid yl8
  obtain ⟨ya8, yc8, rfl, _⟩ := yl8.slice
  have G2L := Lib.hid g2l
  have G2R := Lib.hid g2r
  clear g2l g2r yl3 yl4 yl5 yl6 yl7 yl8
  have HNE := Lib.hid hne
  clear hne
  go_enter Try.func11, Try.ntmps11
  go_wp2_with fail
  have cx0 : ∀ n : KW w, n.to.cell? ⟨g1, g1o, none⟩ = some (Value.int .i64 x0) := fun n => (rangeAt_keep G1R.out n.keep G1L.out (fun h => h)) 0 _ rfl
  have cy0 : ∀ n : KW w, n.to.cell? ⟨g2, g2o, none⟩ = some (Value.int .i64 x0) := fun n => (rangeAt_keep G2R.out n.keep G2L.out (fun h => h)) 0 _ rfl
  have cx1 : ∀ n : KW w, n.to.cell? ⟨g1, g1o + 1, none⟩ = some (Value.int .i64 x1) := fun n => (rangeAt_keep G1R.out n.keep G1L.out (fun h => h)) 1 _ rfl
  have cy1 : ∀ n : KW w, n.to.cell? ⟨g2, g2o + 1, none⟩ = some (Value.int .i64 x1) := fun n => (rangeAt_keep G2R.out n.keep G2L.out (fun h => h)) 1 _ rfl
  have cx2 : ∀ n : KW w, n.to.cell? ⟨g1, g1o + 2, none⟩ = some (Value.int .i64 x2) := fun n => (rangeAt_keep G1R.out n.keep G1L.out (fun h => h)) 2 _ rfl
  have cy2 : ∀ n : KW w, n.to.cell? ⟨g2, g2o + 2, none⟩ = some (Value.int .i64 x2) := fun n => (rangeAt_keep G2R.out n.keep G2L.out (fun h => h)) 2 _ rfl
  have cx3 : ∀ n : KW w, n.to.cell? ⟨g1, g1o + 3, none⟩ = some (Value.slice xa3 x3.length xc3) := fun n => (rangeAt_keep G1R.out n.keep G1L.out (fun h => h)) 3 _ rfl
  have cy3 : ∀ n : KW w, n.to.cell? ⟨g2, g2o + 3, none⟩ = some (Value.slice ya3 y3.length yc3) := fun n => (rangeAt_keep G2R.out n.keep G2L.out (fun h => h)) 3 _ rfl
  refine quiet_kw_long (by kernel_rfl) (by kernel_rfl) (by kernel_rfl) ?_
  iterate 11 (go_big_quiet_step (first | (refine KW.call (v := .bool false) _ (fun n => eqChars_any (XL3.out.keep n.keep (fun _ _ _ h => h)) (YL3.out.keep n.keep (fun _ _ _ h => h))) (fun n e w8 h8 => ?_); obtain ⟨b9, rfl, hb9, hk9⟩ := h8; refine ⟨?_, hk9⟩; cases b9 with | false => rfl | true => exact (HNE.out (hb9.1 rfl)).elim)))
  as_aux_lemma =>
    iterate 11 (go_big_quiet_step (first | (refine KW.call (v := .bool false) _ (fun n => eqChars_any (XL3.out.keep n.keep (fun _ _ _ h => h)) (YL3.out.keep n.keep (fun _ _ _ h => h))) (fun n e w8 h8 => ?_); obtain ⟨b9, rfl, hb9, hk9⟩ := h8; refine ⟨?_, hk9⟩; cases b9 with | false => rfl | true => exact (HNE.out (hb9.1 rfl)).elim)))
    as_aux_lemma =>
      iterate 11 (go_big_quiet_step (first | (refine KW.call (v := .bool false) _ (fun n => eqChars_any (XL3.out.keep n.keep (fun _ _ _ h => h)) (YL3.out.keep n.keep (fun _ _ _ h => h))) (fun n e w8 h8 => ?_); obtain ⟨b9, rfl, hb9, hk9⟩ := h8; refine ⟨?_, hk9⟩; cases b9 with | false => rfl | true => exact (HNE.out (hb9.1 rfl)).elim)))
      as_aux_lemma =>
        iterate 11 (go_big_quiet_step (first | (refine KW.call (v := .bool false) _ (fun n => eqChars_any (XL3.out.keep n.keep (fun _ _ _ h => h)) (YL3.out.keep n.keep (fun _ _ _ h => h))) (fun n e w8 h8 => ?_); obtain ⟨b9, rfl, hb9, hk9⟩ := h8; refine ⟨?_, hk9⟩; cases b9 with | false => rfl | true => exact (HNE.out (hb9.1 rfl)).elim)))
        as_aux_lemma =>
          iterate 11 (go_big_quiet_step (first | (refine KW.call (v := .bool false) _ (fun n => eqChars_any (XL3.out.keep n.keep (fun _ _ _ h => h)) (YL3.out.keep n.keep (fun _ _ _ h => h))) (fun n e w8 h8 => ?_); obtain ⟨b9, rfl, hb9, hk9⟩ := h8; refine ⟨?_, hk9⟩; cases b9 with | false => rfl | true => exact (HNE.out (hb9.1 rfl)).elim)))
          as_aux_lemma =>
            iterate 11 (go_big_quiet_step (first | (refine KW.call (v := .bool false) _ (fun n => eqChars_any (XL3.out.keep n.keep (fun _ _ _ h => h)) (YL3.out.keep n.keep (fun _ _ _ h => h))) (fun n e w8 h8 => ?_); obtain ⟨b9, rfl, hb9, hk9⟩ := h8; refine ⟨?_, hk9⟩; cases b9 with | false => rfl | true => exact (HNE.out (hb9.1 rfl)).elim)))
            as_aux_lemma =>
              iterate 11 (go_big_quiet_step (first | (refine KW.call (v := .bool false) _ (fun n => eqChars_any (XL3.out.keep n.keep (fun _ _ _ h => h)) (YL3.out.keep n.keep (fun _ _ _ h => h))) (fun n e w8 h8 => ?_); obtain ⟨b9, rfl, hb9, hk9⟩ := h8; refine ⟨?_, hk9⟩; cases b9 with | false => rfl | true => exact (HNE.out (hb9.1 rfl)).elim)))
              as_aux_lemma =>
                iterate 11 (go_big_quiet_step (first | (refine KW.call (v := .bool false) _ (fun n => eqChars_any (XL3.out.keep n.keep (fun _ _ _ h => h)) (YL3.out.keep n.keep (fun _ _ _ h => h))) (fun n e w8 h8 => ?_); obtain ⟨b9, rfl, hb9, hk9⟩ := h8; refine ⟨?_, hk9⟩; cases b9 with | false => rfl | true => exact (HNE.out (hb9.1 rfl)).elim)))
                as_aux_lemma =>
                  iterate 10 (go_big_quiet_step (first | (refine KW.call (v := .bool false) _ (fun n => eqChars_any (XL3.out.keep n.keep (fun _ _ _ h => h)) (YL3.out.keep n.keep (fun _ _ _ h => h))) (fun n e w8 h8 => ?_); obtain ⟨b9, rfl, hb9, hk9⟩ := h8; refine ⟨?_, hk9⟩; cases b9 with | false => rfl | true => exact (HNE.out (hb9.1 rfl)).elim)))
                  refine wpQuiet_nil ?_
                  intro w7 hw7
                  obtain ⟨nq, rfl⟩ := hw7
                  have HW7 := Lib.hid nq.keep
                  clear cx0 cy0 cx1 cy1 cx2 cy2 cx3 cy3
                  go_wp2_with fail
                  go_ret
                  exact ⟨rfl, HW7.out⟩

set_option maxHeartbeats 16000000 in
theorem eqw_4 {w : World} {Pb Qb : Nat → Prop} {p q : Value} {x0 : Int} {x1 : Int} {x2 : Int} {x3 : List (ByteArray × ByteArray × Bool × Int × Int × Int × Int × Int × Int × List Int)} {x4 : List (Int × Int × Int × Int × ByteArray)} {x5 : List (Int × Int × Int × Int)} {x6 : List (Int × ByteArray × List ByteArray × Int)} {x7 : List (Int × Int × ByteArray × Int × Int × ByteArray × Int)} {x8 : List (Int × Int)} {y4 : List (Int × Int × Int × Int × ByteArray)} {y5 : List (Int × Int × Int × Int)} {y6 : List (Int × ByteArray × List ByteArray × Int)} {y7 : List (Int × Int × ByteArray × Int × Int × ByteArray × Int)} {y8 : List (Int × Int)} (hx : PAt eWorld Pb w p (x0, x1, x2, x3, x4, x5, x6, x7, x8)) (hy : PAt eWorld Qb w q (x0, x1, x2, x3, y4, y5, y6, y7, y8)) (hne : ¬ x4 = y4) : Calls Try.prog 11 #[p, q] w fun e w' => e = .returned (.bool false) ∧ Keep (fun _ => False) w w' := by
  obtain ⟨g1, g1o, _, rfl, g1l, _, ⟨xv3, xv4, xv5, xv6, xv7, xv8, xl3, xl4, xl5, xl6, xl7, xl8, rfl⟩, g1r⟩ := hx
  have XL3 : Hid (LAt eChar _ w xv3 x3) := Lib.hid xl3
  obtain ⟨xa3, xc3, rfl, _⟩ := xl3.slice
  have XL4 : Hid (LAt eThing _ w xv4 x4) := Lib.hid xl4
  obtain ⟨xa4, xc4, rfl, _⟩ := xl4.slice
  have XL5 : Hid (LAt eMob _ w xv5 x5) := Lib.hid xl5
  obtain ⟨xa5, xc5, rfl, _⟩ := xl5.slice
  have XL6 : Hid (LAt eHouse _ w xv6 x6) := Lib.hid xl6
  obtain ⟨xa6, xc6, rfl, _⟩ := xl6.slice
  have XL7 : Hid (LAt eLot _ w xv7 x7) := Lib.hid xl7
  obtain ⟨xa7, xc7, rfl, _⟩ := xl7.slice
  have XL8 : Hid (LAt eTill _ w xv8 x8) := Lib.hid xl8
  obtain ⟨xa8, xc8, rfl, _⟩ := xl8.slice
  have G1L := Lib.hid g1l
  have G1R := Lib.hid g1r
  clear g1l g1r xl3 xl4 xl5 xl6 xl7 xl8
  obtain ⟨g2, g2o, _, rfl, g2l, _, ⟨yv3, yv4, yv5, yv6, yv7, yv8, yl3, yl4, yl5, yl6, yl7, yl8, rfl⟩, g2r⟩ := hy
  have YL3 : Hid (LAt eChar _ w yv3 x3) := Lib.hid yl3
  obtain ⟨ya3, yc3, rfl, _⟩ := yl3.slice
  have YL4 : Hid (LAt eThing _ w yv4 y4) := Lib.hid yl4
  obtain ⟨ya4, yc4, rfl, _⟩ := yl4.slice
  have YL5 : Hid (LAt eMob _ w yv5 y5) := Lib.hid yl5
  obtain ⟨ya5, yc5, rfl, _⟩ := yl5.slice
  have YL6 : Hid (LAt eHouse _ w yv6 y6) := Lib.hid yl6
  obtain ⟨ya6, yc6, rfl, _⟩ := yl6.slice
  have YL7 : Hid (LAt eLot _ w yv7 y7) := Lib.hid yl7
  obtain ⟨ya7, yc7, rfl, _⟩ := yl7.slice
  have YL8 : Hid (LAt eTill _ w yv8 y8) := Lib.hid yl8
  obtain ⟨ya8, yc8, rfl, _⟩ := yl8.slice
  have G2L := Lib.hid g2l
  have G2R := Lib.hid g2r
  clear g2l g2r yl3 yl4 yl5 yl6 yl7 yl8
  have HNE := Lib.hid hne
  clear hne
  go_enter Try.func11, Try.ntmps11
  go_wp2_with fail
  have cx0 : ∀ n : KW w, n.to.cell? ⟨g1, g1o, none⟩ = some (Value.int .i64 x0) := fun n => (rangeAt_keep G1R.out n.keep G1L.out (fun h => h)) 0 _ rfl
  have cy0 : ∀ n : KW w, n.to.cell? ⟨g2, g2o, none⟩ = some (Value.int .i64 x0) := fun n => (rangeAt_keep G2R.out n.keep G2L.out (fun h => h)) 0 _ rfl
  have cx1 : ∀ n : KW w, n.to.cell? ⟨g1, g1o + 1, none⟩ = some (Value.int .i64 x1) := fun n => (rangeAt_keep G1R.out n.keep G1L.out (fun h => h)) 1 _ rfl
  have cy1 : ∀ n : KW w, n.to.cell? ⟨g2, g2o + 1, none⟩ = some (Value.int .i64 x1) := fun n => (rangeAt_keep G2R.out n.keep G2L.out (fun h => h)) 1 _ rfl
  have cx2 : ∀ n : KW w, n.to.cell? ⟨g1, g1o + 2, none⟩ = some (Value.int .i64 x2) := fun n => (rangeAt_keep G1R.out n.keep G1L.out (fun h => h)) 2 _ rfl
  have cy2 : ∀ n : KW w, n.to.cell? ⟨g2, g2o + 2, none⟩ = some (Value.int .i64 x2) := fun n => (rangeAt_keep G2R.out n.keep G2L.out (fun h => h)) 2 _ rfl
  have cx3 : ∀ n : KW w, n.to.cell? ⟨g1, g1o + 3, none⟩ = some (Value.slice xa3 x3.length xc3) := fun n => (rangeAt_keep G1R.out n.keep G1L.out (fun h => h)) 3 _ rfl
  have cy3 : ∀ n : KW w, n.to.cell? ⟨g2, g2o + 3, none⟩ = some (Value.slice ya3 x3.length yc3) := fun n => (rangeAt_keep G2R.out n.keep G2L.out (fun h => h)) 3 _ rfl
  have cx4 : ∀ n : KW w, n.to.cell? ⟨g1, g1o + 4, none⟩ = some (Value.slice xa4 x4.length xc4) := fun n => (rangeAt_keep G1R.out n.keep G1L.out (fun h => h)) 4 _ rfl
  have cy4 : ∀ n : KW w, n.to.cell? ⟨g2, g2o + 4, none⟩ = some (Value.slice ya4 y4.length yc4) := fun n => (rangeAt_keep G2R.out n.keep G2L.out (fun h => h)) 4 _ rfl
  refine quiet_kw_long (by kernel_rfl) (by kernel_rfl) (by kernel_rfl) ?_
  iterate 11 (go_big_quiet_step (first | (refine KW.call (v := .bool true) _ (fun n => eqChars_any (XL3.out.keep n.keep (fun _ _ _ h => h)) (YL3.out.keep n.keep (fun _ _ _ h => h))) (fun n e w8 h8 => ?_); obtain ⟨b9, rfl, hb9, hk9⟩ := h8; refine ⟨?_, hk9⟩; rw [show b9 = true from hb9.2 rfl]) | (refine KW.call (v := .bool false) _ (fun n => eqThings_any (XL4.out.keep n.keep (fun _ _ _ h => h)) (YL4.out.keep n.keep (fun _ _ _ h => h))) (fun n e w8 h8 => ?_); obtain ⟨b9, rfl, hb9, hk9⟩ := h8; refine ⟨?_, hk9⟩; cases b9 with | false => rfl | true => exact (HNE.out (hb9.1 rfl)).elim)))
  as_aux_lemma =>
    iterate 11 (go_big_quiet_step (first | (refine KW.call (v := .bool true) _ (fun n => eqChars_any (XL3.out.keep n.keep (fun _ _ _ h => h)) (YL3.out.keep n.keep (fun _ _ _ h => h))) (fun n e w8 h8 => ?_); obtain ⟨b9, rfl, hb9, hk9⟩ := h8; refine ⟨?_, hk9⟩; rw [show b9 = true from hb9.2 rfl]) | (refine KW.call (v := .bool false) _ (fun n => eqThings_any (XL4.out.keep n.keep (fun _ _ _ h => h)) (YL4.out.keep n.keep (fun _ _ _ h => h))) (fun n e w8 h8 => ?_); obtain ⟨b9, rfl, hb9, hk9⟩ := h8; refine ⟨?_, hk9⟩; cases b9 with | false => rfl | true => exact (HNE.out (hb9.1 rfl)).elim)))
    as_aux_lemma =>
      iterate 11 (go_big_quiet_step (first | (refine KW.call (v := .bool true) _ (fun n => eqChars_any (XL3.out.keep n.keep (fun _ _ _ h => h)) (YL3.out.keep n.keep (fun _ _ _ h => h))) (fun n e w8 h8 => ?_); obtain ⟨b9, rfl, hb9, hk9⟩ := h8; refine ⟨?_, hk9⟩; rw [show b9 = true from hb9.2 rfl]) | (refine KW.call (v := .bool false) _ (fun n => eqThings_any (XL4.out.keep n.keep (fun _ _ _ h => h)) (YL4.out.keep n.keep (fun _ _ _ h => h))) (fun n e w8 h8 => ?_); obtain ⟨b9, rfl, hb9, hk9⟩ := h8; refine ⟨?_, hk9⟩; cases b9 with | false => rfl | true => exact (HNE.out (hb9.1 rfl)).elim)))
      as_aux_lemma =>
        iterate 11 (go_big_quiet_step (first | (refine KW.call (v := .bool true) _ (fun n => eqChars_any (XL3.out.keep n.keep (fun _ _ _ h => h)) (YL3.out.keep n.keep (fun _ _ _ h => h))) (fun n e w8 h8 => ?_); obtain ⟨b9, rfl, hb9, hk9⟩ := h8; refine ⟨?_, hk9⟩; rw [show b9 = true from hb9.2 rfl]) | (refine KW.call (v := .bool false) _ (fun n => eqThings_any (XL4.out.keep n.keep (fun _ _ _ h => h)) (YL4.out.keep n.keep (fun _ _ _ h => h))) (fun n e w8 h8 => ?_); obtain ⟨b9, rfl, hb9, hk9⟩ := h8; refine ⟨?_, hk9⟩; cases b9 with | false => rfl | true => exact (HNE.out (hb9.1 rfl)).elim)))
        as_aux_lemma =>
          iterate 11 (go_big_quiet_step (first | (refine KW.call (v := .bool true) _ (fun n => eqChars_any (XL3.out.keep n.keep (fun _ _ _ h => h)) (YL3.out.keep n.keep (fun _ _ _ h => h))) (fun n e w8 h8 => ?_); obtain ⟨b9, rfl, hb9, hk9⟩ := h8; refine ⟨?_, hk9⟩; rw [show b9 = true from hb9.2 rfl]) | (refine KW.call (v := .bool false) _ (fun n => eqThings_any (XL4.out.keep n.keep (fun _ _ _ h => h)) (YL4.out.keep n.keep (fun _ _ _ h => h))) (fun n e w8 h8 => ?_); obtain ⟨b9, rfl, hb9, hk9⟩ := h8; refine ⟨?_, hk9⟩; cases b9 with | false => rfl | true => exact (HNE.out (hb9.1 rfl)).elim)))
          as_aux_lemma =>
            iterate 11 (go_big_quiet_step (first | (refine KW.call (v := .bool true) _ (fun n => eqChars_any (XL3.out.keep n.keep (fun _ _ _ h => h)) (YL3.out.keep n.keep (fun _ _ _ h => h))) (fun n e w8 h8 => ?_); obtain ⟨b9, rfl, hb9, hk9⟩ := h8; refine ⟨?_, hk9⟩; rw [show b9 = true from hb9.2 rfl]) | (refine KW.call (v := .bool false) _ (fun n => eqThings_any (XL4.out.keep n.keep (fun _ _ _ h => h)) (YL4.out.keep n.keep (fun _ _ _ h => h))) (fun n e w8 h8 => ?_); obtain ⟨b9, rfl, hb9, hk9⟩ := h8; refine ⟨?_, hk9⟩; cases b9 with | false => rfl | true => exact (HNE.out (hb9.1 rfl)).elim)))
            as_aux_lemma =>
              iterate 11 (go_big_quiet_step (first | (refine KW.call (v := .bool true) _ (fun n => eqChars_any (XL3.out.keep n.keep (fun _ _ _ h => h)) (YL3.out.keep n.keep (fun _ _ _ h => h))) (fun n e w8 h8 => ?_); obtain ⟨b9, rfl, hb9, hk9⟩ := h8; refine ⟨?_, hk9⟩; rw [show b9 = true from hb9.2 rfl]) | (refine KW.call (v := .bool false) _ (fun n => eqThings_any (XL4.out.keep n.keep (fun _ _ _ h => h)) (YL4.out.keep n.keep (fun _ _ _ h => h))) (fun n e w8 h8 => ?_); obtain ⟨b9, rfl, hb9, hk9⟩ := h8; refine ⟨?_, hk9⟩; cases b9 with | false => rfl | true => exact (HNE.out (hb9.1 rfl)).elim)))
              as_aux_lemma =>
                iterate 11 (go_big_quiet_step (first | (refine KW.call (v := .bool true) _ (fun n => eqChars_any (XL3.out.keep n.keep (fun _ _ _ h => h)) (YL3.out.keep n.keep (fun _ _ _ h => h))) (fun n e w8 h8 => ?_); obtain ⟨b9, rfl, hb9, hk9⟩ := h8; refine ⟨?_, hk9⟩; rw [show b9 = true from hb9.2 rfl]) | (refine KW.call (v := .bool false) _ (fun n => eqThings_any (XL4.out.keep n.keep (fun _ _ _ h => h)) (YL4.out.keep n.keep (fun _ _ _ h => h))) (fun n e w8 h8 => ?_); obtain ⟨b9, rfl, hb9, hk9⟩ := h8; refine ⟨?_, hk9⟩; cases b9 with | false => rfl | true => exact (HNE.out (hb9.1 rfl)).elim)))
                as_aux_lemma =>
                  iterate 10 (go_big_quiet_step (first | (refine KW.call (v := .bool true) _ (fun n => eqChars_any (XL3.out.keep n.keep (fun _ _ _ h => h)) (YL3.out.keep n.keep (fun _ _ _ h => h))) (fun n e w8 h8 => ?_); obtain ⟨b9, rfl, hb9, hk9⟩ := h8; refine ⟨?_, hk9⟩; rw [show b9 = true from hb9.2 rfl]) | (refine KW.call (v := .bool false) _ (fun n => eqThings_any (XL4.out.keep n.keep (fun _ _ _ h => h)) (YL4.out.keep n.keep (fun _ _ _ h => h))) (fun n e w8 h8 => ?_); obtain ⟨b9, rfl, hb9, hk9⟩ := h8; refine ⟨?_, hk9⟩; cases b9 with | false => rfl | true => exact (HNE.out (hb9.1 rfl)).elim)))
                  refine wpQuiet_nil ?_
                  intro w7 hw7
                  obtain ⟨nq, rfl⟩ := hw7
                  have HW7 := Lib.hid nq.keep
                  clear cx0 cy0 cx1 cy1 cx2 cy2 cx3 cy3 cx4 cy4
                  go_wp2_with fail
                  go_ret
                  exact ⟨rfl, HW7.out⟩

end Go.Proofs.Ytpefkellcigpkaa.Cd
