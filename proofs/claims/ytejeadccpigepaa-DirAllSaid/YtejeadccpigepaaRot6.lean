/- dirfs: pieces of a row of entries change places. -/
import Derived.Test.YtejeadccpigepaaCmp6
import Derived.IntWalk
namespace Go.Proofs.Ytejeadccpigepaa.Dir
open Go.RowKit Go.Maps Go.Proofs.Ytejeadccpigepaa Go.Proofs.Ytejeadccpigepaa.Ino
set_option maxRecDepth 100000

structure SwI (w0 : World) (g o cap n : Nat) (P X M Y R : List Ent) (iv : Value) (wr : World) : Prop where
  ex : ∃ (k : Nat) (X1 X2 Y1 Y2 : List Ent), iv = .int .i64 (k : Int) ∧ X = X1 ++ X2 ∧ Y = Y1 ++ Y2 ∧ X1.length = k ∧ Y1.length = k ∧ SoR w0 g o cap n (P ++ (Y1 ++ X2) ++ M ++ (X1 ++ Y2) ++ R) wr

set_option maxHeartbeats 2000000 in
theorem swap6_any {w : World} {g o cap n : Nat} (P X M Y R : List Ent) (h : SoR w g o cap n (P ++ X ++ M ++ Y ++ R) w) (hnc : n ≤ cap) (hcm : cap ≤ maxLen) (a b m : Nat) (ha : P.length = a) (hb : P.length + X.length + M.length = b) (hx : X.length = m) (hy : Y.length = m) (f : Value) :
    Calls Try.prog 71 #[.slice (some ⟨g, o, none⟩) n cap, .int .i64 (a : Int), .int .i64 (b : Int), .int .i64 (m : Int), f] w fun e w' => e = .returned (.tuple #[]) ∧ SoR w g o cap n (P ++ Y ++ M ++ X ++ R) w' := by
  have HL : Hid (b + m + R.length = n) := Lib.hid (by have := h.len; simp only [List.length_append] at this; omega)
  have hbn : b + m ≤ n := by have := HL.out; omega
  have hab : a + m ≤ b := by omega
  have H0 : Hid (SwI w g o cap n P X M Y R (.int .i64 0) w) := Lib.hid ⟨0, [], X, [], Y, rfl, rfl, rfl, rfl, rfl, by simpa using h⟩
  have HA := Lib.hid ha; have HB := Lib.hid hb; have HX := Lib.hid hx; have HY := Lib.hid hy
  unfold maxLen at hcm
  clear h ha hb hx hy
  go_enter Try.func71, Try.ntmps71
  go_wp2
  go_loopw [10] (fun iv wr => SwI w g o cap n P X M Y R iv wr) (fun iv _ => m - (intOf iv).toNat)
  case atStart => exact H0.out
  case round =>
    obtain ⟨k, X1, X2, Y1, Y2, rfl, hX, hY, hk1, hk2, hS⟩ := hrel.ex
    have HX2 := Lib.hid hX; have HY2 := Lib.hid hY; have HK1 := Lib.hid hk1; have HK2 := Lib.hid hk2; have HS := Lib.hid hS
    clear hX hY hk1 hk2 hS hrel H0
    by_cases hlt : k < m
    · have hd : decide (k < m) = true := by rw [decide_eq_true_eq]; omega
      have l1 : X1.length + X2.length = m := by rw [← List.length_append, ← HX2.out]; exact HX.out
      have l2 : Y1.length + Y2.length = m := by rw [← List.length_append, ← HY2.out]; exact HY.out
      obtain ⟨x, X3, hx3⟩ := List.exists_cons_of_ne_nil (l := X2) (fun e => by rw [e] at l1; simp at l1; have := HK1.out; omega)
      obtain ⟨y, Y3, hy3⟩ := List.exists_cons_of_ne_nil (l := Y2) (fun e => by rw [e] at l2; simp at l2; have := HK2.out; omega)
      subst hx3 hy3
      obtain ⟨ia, hia⟩ : ∃ ia, ia = a + k := ⟨_, rfl⟩
      obtain ⟨ib, hib⟩ : ∃ ib, ib = b + k := ⟨_, rfl⟩
      have hS := HS.out
      have q1 : (P ++ (Y1 ++ x :: X3) ++ M ++ (X1 ++ y :: Y3) ++ R)[ia]? = some x := by
        have e : P ++ (Y1 ++ x :: X3) ++ M ++ (X1 ++ y :: Y3) ++ R = (P ++ Y1) ++ x :: (X3 ++ M ++ (X1 ++ y :: Y3) ++ R) := by simp
        rw [e, List.getElem?_append_right (by have := HA.out; have := HK2.out; simp; omega)]
        have : ia - (P ++ Y1).length = 0 := by have := HA.out; have := HK2.out; simp; omega
        rw [this]; rfl
      have q2 : (P ++ (Y1 ++ x :: X3) ++ M ++ (X1 ++ y :: Y3) ++ R)[ib]? = some y := by
        have e : P ++ (Y1 ++ x :: X3) ++ M ++ (X1 ++ y :: Y3) ++ R = (P ++ (Y1 ++ x :: X3) ++ M ++ X1) ++ y :: (Y3 ++ R) := by simp
        have hl : (P ++ (Y1 ++ x :: X3) ++ M ++ X1).length = ib := by
          have := HB.out; have := HK1.out; have := HK2.out; have := HX.out
          simp only [List.length_append, List.length_cons] at *; omega
        rw [e, List.getElem?_append_right (by omega), hl, Nat.sub_self]; rfl
      have hla := (List.getElem?_eq_some_iff.1 q1).1
      have hlb := (List.getElem?_eq_some_iff.1 q2).1
      obtain ⟨cx0, cx1, fx0, fx1⟩ := hS.cell (i := ia) (by omega) hla
      obtain ⟨cy0, cy1, fy0, fy1⟩ := hS.cell (i := ib) (by omega) hlb
      rw [(List.getElem?_eq_some_iff.1 q1).2] at cx0 cx1
      rw [(List.getElem?_eq_some_iff.1 q2).2] at cy0 cy1
      have HNEW : Hid (SwI w g o cap n P X M Y R (.int .i64 ((k : Int) + 1)) ((((wr.setCell ⟨g, o + ia * 2, none⟩ (.string ⟨y.1.toArray⟩)).setCell ⟨g, o + ia * 2 + 1, none⟩ (.int .i64 (y.2 : Int))).setCell ⟨g, o + ib * 2, none⟩ (.string ⟨x.1.toArray⟩)).setCell ⟨g, o + ib * 2 + 1, none⟩ (.int .i64 (x.2 : Int))).drew) := Lib.hid (by
        have h1 := ((hS.put ia y).put ib x).drew
        have hset : ((P ++ (Y1 ++ x :: X3) ++ M ++ (X1 ++ y :: Y3) ++ R).set ia y).set ib x = P ++ ((Y1 ++ [y]) ++ X3) ++ M ++ ((X1 ++ [x]) ++ Y3) ++ R := by
          have e : P ++ (Y1 ++ x :: X3) ++ M ++ (X1 ++ y :: Y3) ++ R = (P ++ Y1) ++ x :: ((X3 ++ M ++ X1) ++ y :: (Y3 ++ R)) := by simp
          have hl1 : (P ++ Y1).length = ia := by have := HA.out; have := HK2.out; simp; omega
          have hl2 : (P ++ Y1).length + 1 + (X3 ++ M ++ X1).length = ib := by
            have := HB.out; have := HK1.out; have := HK2.out; have := HX.out
            simp only [List.length_append, List.length_cons] at *; omega
          rw [e, List.set_append_right _ _ (by omega), hl1, Nat.sub_self, List.set_cons_zero, List.set_append_right _ _ (by omega), hl1]
          obtain ⟨d, hdd⟩ : ∃ d, ib - ia = d + 1 := ⟨ib - ia - 1, by omega⟩
          rw [hdd, List.set_cons_succ, List.set_append_right _ _ (by omega), show d - (X3 ++ M ++ X1).length = 0 by omega, List.set_cons_zero]
          simp
        rw [hset] at h1
        exact ⟨k + 1, X1 ++ [x], X3, Y1 ++ [y], Y3, by go_num, by rw [HX2.out]; simp, by rw [HY2.out]; simp, by simp [HK1.out], by simp [HK2.out], h1⟩)
      have hgl : g < wr.heap.size := hS.row.lt (k := g) rfl
      have e1 : (a : Int) + (k : Int) = (ia : Int) := by omega
      have e2 : (b : Int) + (k : Int) = (ib : Int) := by omega
      have hne : ia < ib := by omega
      have hin : ib < n := by omega
      have hin2 : ia < n := by omega
      clear hS q1 q2 hla hlb hia hib l1 l2
      go_wp2_with fail
      go_region
      all_goals go_wp2
      all_goals
        go_roundw
        case rel => exact HNEW.out
        case measure => simp [intOf]; omega
    · have hd : decide (k < m) = false := by rw [decide_eq_false_iff_not]; omega
      have HEND : Hid (SoR w g o cap n (P ++ Y ++ M ++ X ++ R) wr) := Lib.hid (by
        have e1 : X2 = [] := List.eq_nil_of_length_eq_zero (by have := HX.out; have h := congrArg List.length HX2.out; simp only [List.length_append] at h; have := HK1.out; omega)
        have e2 : Y2 = [] := List.eq_nil_of_length_eq_zero (by have := HY.out; have h := congrArg List.length HY2.out; simp only [List.length_append] at h; have := HK2.out; omega)
        have hs := HS.out
        have h1 := HX2.out; have h2 := HY2.out
        subst e1 e2
        simp only [List.append_nil] at h1 h2 hs
        rw [h1, h2]; exact hs)
      go_wp2
      go_end0
      exact ⟨rfl, HEND.out⟩

structure RoI (w0 : World) (g o cap n m : Nat) (P U V R : List Ent) (iv jv : Value) (wr : World) : Prop where
  ex : ∃ (i j : Nat) (A U' V' B : List Ent), iv = .int .i64 (i : Int) ∧ jv = .int .i64 (j : Int) ∧ U'.length = i ∧ V'.length = j ∧ 0 < i ∧ 0 < j ∧ P.length + A.length + i = m ∧ A ++ V' ++ U' ++ B = V ++ U ∧ SoR w0 g o cap n (P ++ A ++ U' ++ V' ++ B ++ R) wr

set_option maxHeartbeats 2000000 in
theorem rot6_any {w : World} {g o cap n : Nat} (P U V R : List Ent) (h : SoR w g o cap n (P ++ U ++ V ++ R) w) (hnc : n ≤ cap) (hcm : cap ≤ maxLen) (a m b : Nat) (ha : P.length = a) (hm : P.length + U.length = m) (hb : P.length + U.length + V.length = b) (hu : U ≠ []) (hv : V ≠ []) (f : Value) :
    Calls Try.prog 59 #[.slice (some ⟨g, o, none⟩) n cap, .int .i64 (a : Int), .int .i64 (m : Int), .int .i64 (b : Int), f] w fun e w' => e = .returned (.tuple #[]) ∧ SoR w g o cap n (P ++ V ++ U ++ R) w' := by
  have hbn : b ≤ n := by have := h.len; simp only [List.length_append] at this; omega
  have hun : 0 < U.length := List.length_pos_iff.2 hu
  have hvn : 0 < V.length := List.length_pos_iff.2 hv
  have q1 : (m : Int) - (a : Int) = (U.length : Int) := by omega
  have q2 : (b : Int) - (m : Int) = (V.length : Int) := by omega
  have H0 : Hid (RoI w g o cap n m P U V R (.int .i64 (U.length : Int)) (.int .i64 (V.length : Int)) w) := Lib.hid ⟨_, _, [], U, V, [], rfl, rfl, rfl, rfl, hun, hvn, by simpa using hm, by simp, by simpa using h⟩
  have hmn : m ≤ n := by omega
  have hnm := hcm
  unfold maxLen at hcm
  have HNM := Lib.hid hnm
  clear h ha hb hm hu hv hun hvn hnm
  go_enter Try.func59, Try.ntmps59
  go_wp2
  clear q1 q2
  go_loopw [10, 11] (fun iv jv wr => RoI w g o cap n m P U V R iv jv wr) (fun iv jv _ => (intOf iv).toNat + (intOf jv).toNat)
  case atStart => exact H0.out
  case round =>
    obtain ⟨i, j, A, U', V', B, rfl, rfl, hi, hj, hi0, hj0, hPA, hVU, hS⟩ := hrel.ex
    have hbn' : m + j ≤ n := by have := hS.len; simp only [List.length_append] at this; omega
    have HS := Lib.hid hS; have HVU := Lib.hid hVU; have HI := Lib.hid hi; have HJ := Lib.hid hj; have HPA := Lib.hid hPA
    have him : i ≤ m := by omega
    obtain ⟨c, hc⟩ : ∃ c, c = m - i := ⟨_, rfl⟩
    have HC := Lib.hid hc
    have e1 : (m : Int) - (i : Int) = (c : Int) := by omega
    have hSl : SoR wr g o cap n (P ++ A ++ U' ++ V' ++ B ++ R) wr := ⟨hS.len, hS.row, Keep.refl _ _⟩
    have HSL := Lib.hid hSl
    clear hS hVU hi hj hPA hrel H0 hSl hc him
    by_cases hij : i = j
    · subst hij
      have hd : ((i : Int) != (i : Int)) = false := by simp
      have HSW := Lib.hid (swap6_any (w := wr) (P ++ A) U' [] V' (B ++ R) (by simpa using HSL.out) hnc HNM.out c m i (by simp; have := HPA.out; have := HC.out; omega) (by simp; have := HPA.out; have := HI.out; omega) HI.out HJ.out f)
      go_wp2_with (go_at_call 71; (with_reducible refine HSW.out.mono ?_); rintro e w2 ⟨rfl, h2⟩; have H2 := Lib.hid h2; clear h2)
      go_end0
      refine ⟨rfl, ⟨?_, ?_, HS.out.keep.trans H2.out.keep (fun _ h => .inl h)⟩⟩
      · have h3 := H2.out.len
        have hv := congrArg List.length HVU.out
        simp at h3 hv ⊢
        omega
      · have h3 := H2.out.row
        have e : P ++ A ++ V' ++ [] ++ U' ++ (B ++ R) = P ++ V ++ U ++ R := by
          have := HVU.out
          calc P ++ A ++ V' ++ [] ++ U' ++ (B ++ R) = P ++ (A ++ V' ++ U' ++ B) ++ R := by simp
            _ = P ++ (V ++ U) ++ R := by rw [this]
            _ = P ++ V ++ U ++ R := by simp
        rw [e] at h3; exact h3
    · have hd : ((i : Int) != (j : Int)) = true := by simp only [bne_iff_ne, ne_eq]; omega
      by_cases hgt : j < i
      · have hd2 : decide (j < i) = true := by rw [decide_eq_true_eq]; omega
        have hd3 : decide ((j : Int) < (i : Int)) = true := by rw [decide_eq_true_eq]; omega
        have hu : U' = U'.take j ++ U'.drop j := (List.take_append_drop _ _).symm
        obtain ⟨u1, u2, hu12, hl1⟩ : ∃ u1 u2, U' = u1 ++ u2 ∧ u1.length = j := ⟨_, _, hu, by rw [List.length_take]; have := HI.out; omega⟩
        have hl2 : u2.length = i - j := by have := HI.out; rw [hu12] at this; simp only [List.length_append] at this; omega
        obtain ⟨d, hdd⟩ : ∃ d, d = i - j := ⟨_, rfl⟩
        have e3 : (i : Int) - (j : Int) = (d : Int) := by omega
        have HSW := Lib.hid (swap6_any (w := wr) (P ++ A) u1 u2 V' (B ++ R) (by have := HSL.out; rw [hu12] at this; simpa using this) hnc HNM.out c m j (by simp; have := HPA.out; have := HC.out; omega) (by simp; have := HPA.out; omega) hl1 HJ.out f)
        have HL1 := Lib.hid hl1; have HL2 := Lib.hid hl2; have HU := Lib.hid hu12; have HD := Lib.hid hdd
        clear hu hu12 hl1 hl2 hdd hij
        go_wp2_with (go_at_call 71; (with_reducible refine HSW.out.mono ?_); rintro e w2 ⟨rfl, h2⟩; have H2 := Lib.hid h2; clear h2)
        go_roundw
        case rel =>
          refine ⟨d, j, A ++ V', u2, u1, B, rfl, rfl, by rw [HL2.out, HD.out], HL1.out, by have := HD.out; omega, hj0, ?_, ?_, ⟨?_, ?_, HS.out.keep.trans H2.out.keep (fun _ h => .inl h)⟩⟩
          · have := HPA.out; have := HJ.out; have := HD.out; simp only [List.length_append]; omega
          · rw [← HVU.out, HU.out]; simp
          · have := H2.out.len; simp only [List.length_append] at *; omega
          · have h3 := H2.out.row; simpa using h3
        case measure => simp [intOf]; have := HD.out; omega
      · have hd2 : decide (j < i) = false := by rw [decide_eq_false_iff_not]; omega
        have hd3 : decide ((j : Int) < (i : Int)) = false := by rw [decide_eq_false_iff_not]; omega
        obtain ⟨v1, v2, hv12, hl2⟩ : ∃ v1 v2, V' = v1 ++ v2 ∧ v1.length = j - i := ⟨_, _, (List.take_append_drop (j - i) V').symm, by rw [List.length_take]; have := HJ.out; omega⟩
        have hl1 : v2.length = i := by have := HJ.out; rw [hv12] at this; simp only [List.length_append] at this; omega
        obtain ⟨d, hdd⟩ : ∃ d, d = j - i := ⟨_, rfl⟩
        obtain ⟨t, htt⟩ : ∃ t, t = m + j := ⟨_, rfl⟩
        obtain ⟨r, hrr⟩ : ∃ r, r = m + j - i := ⟨_, rfl⟩
        have e3 : (j : Int) - (i : Int) = (d : Int) := by omega
        have e4 : (m : Int) + (j : Int) = (t : Int) := by omega
        have e5 : (t : Int) - (i : Int) = (r : Int) := by omega
        have htn : t ≤ n := by omega
        have hilt : i < j := by omega
        have HSW := Lib.hid (swap6_any (w := wr) (P ++ A) U' v1 v2 (B ++ R) (by have := HSL.out; rw [hv12] at this; simpa using this) hnc HNM.out c r i (by simp; have := HPA.out; have := HC.out; omega) (by simp; have := HPA.out; have := HI.out; omega) HI.out hl1 f)
        have HL1 := Lib.hid hl1; have HL2 := Lib.hid hl2; have HV := Lib.hid hv12; have HD := Lib.hid hdd
        clear hv12 hl1 hl2 hdd hij htt hrr
        go_wp2_with (go_at_call 71; (with_reducible refine HSW.out.mono ?_); rintro e w2 ⟨rfl, h2⟩; have H2 := Lib.hid h2; clear h2)
        go_roundw
        case rel =>
          refine ⟨i, d, A, v2, v1, U' ++ B, rfl, rfl, HL1.out, by rw [HL2.out, HD.out], hi0, by have := HD.out; omega, HPA.out, ?_, ⟨?_, ?_, HS.out.keep.trans H2.out.keep (fun _ h => .inl h)⟩⟩
          · rw [← HVU.out, HV.out]; simp
          · have := H2.out.len; simp only [List.length_append] at *; omega
          · have h3 := H2.out.row; simpa using h3
        case measure => simp [intOf]; have := HD.out; omega

end Go.Proofs.Ytejeadccpigepaa.Dir
