/- dirfs: the stable sort's blocks and merges (symMerge's contract a premise). -/
import Derived.Test.YtejeadccpigepaaCmp6
import Derived.Test.YtejeadccpigepaaBlk6
namespace Go.Proofs.Ytejeadccpigepaa.Dir
open Go.RowKit Go.Maps Go.Proofs.Ytejeadccpigepaa Go.Proofs.Ytejeadccpigepaa.Ino
set_option maxRecDepth 100000

/-- What symMerge is to do. -/
def SymM (g o cap n : Nat) : Prop := ∀ (w : World) (P X1 X2 R : List Ent) (a m b : Nat), SoR w g o cap n (P ++ (X1 ++ X2) ++ R) w → Ris ltE X1 → Ris ltE X2 → X1 ≠ [] → X2 ≠ [] → P.length = a → a + X1.length = m → m + X2.length = b →
  Calls Try.prog 46 #[.slice (some ⟨g, o, none⟩) n cap, .int .i64 (a : Int), .int .i64 (m : Int), .int .i64 (b : Int), .func (.func 25) #[] #[]] w fun e w' => e = .returned (.tuple #[]) ∧ SrtA w g o cap n P (X1 ++ X2) R w'

/-- Blocks are sorted, one after the other. -/
structure StA (w0 : World) (g o cap n : Nat) (D : List Ent) (av bv : Value) (wr : World) : Prop where
  ex : ∃ (k : Nat) (D' : List Ent), av = .int .i64 ((k * 20 : Nat) : Int) ∧ bv = .int .i64 ((k * 20 + 20 : Nat) : Int) ∧ k * 20 ≤ n ∧ D'.Perm D ∧ Blk 20 k D' ∧ SoR w0 g o cap n D' wr

/-- Rounds of merges. -/
structure StB (w0 : World) (g o cap n : Nat) (D : List Ent) (sv : Value) (wr : World) : Prop where
  ex : ∃ (s : Nat) (D' : List Ent), sv = .int .i64 (s : Int) ∧ 20 ≤ s ∧ s ≤ 20 + 2 * n ∧ D'.Perm D ∧ AllB s D' ∧ SoR w0 g o cap n D' wr

/-- One round. -/
structure StC (w0 : World) (g o cap n s : Nat) (D : List Ent) (av bv : Value) (wr : World) : Prop where
  ex : ∃ (k a : Nat) (D' : List Ent), a = k * (2 * s) ∧ av = .int .i64 (a : Int) ∧ bv = .int .i64 ((a + 2 * s : Nat) : Int) ∧ a ≤ n ∧ D'.Perm D ∧ Mer s k D' ∧ SoR w0 g o cap n D' wr

set_option maxHeartbeats 2000000 in
theorem stb6_any {w : World} {g o cap n : Nat} (D : List Ent) (h : SoR w g o cap n D w) (hn : n ≤ 3200) (hnc : n ≤ cap) (hcm : cap ≤ maxLen) (hsym : SymM g o cap n) :
    Calls Try.prog 35 #[.slice (some ⟨g, o, none⟩) n cap, .int .i64 (n : Int), .func (.func 25) #[] #[]] w fun e w' => e = .returned (.tuple #[]) ∧ SrtA w g o cap n [] D [] w' := by
  have H := Lib.hid h
  have HSY := Lib.hid hsym
  have hnm := hcm
  have HNM := Lib.hid hnm
  unfold maxLen at hcm
  clear h hsym hnm
  go_enter Try.func35, Try.ntmps35
  go_wp2
  go_loopw [7, 8] (fun av bv wr => StA w g o cap n D av bv wr) (fun av _ _ => n + 20 - (intOf av).toNat)
  case atStart => exact ⟨0, D, by go_num, by go_num, by omega, List.Perm.refl _, fun j hj => by omega, H.out⟩
  case round =>
    obtain ⟨k, D', rfl, rfl, hkn, hperm, hblk, hS⟩ := hrel.ex
    have HPM := Lib.hid hperm; have HBL := Lib.hid hblk; have HS := Lib.hid hS
    have hDl := hS.len
    have HDL := Lib.hid hDl
    obtain ⟨a, ha⟩ : ∃ a, a = k * 20 := ⟨_, rfl⟩
    obtain ⟨b, hb⟩ : ∃ b, b = k * 20 + 20 := ⟨_, rfl⟩
    have HA := Lib.hid ha; have HB := Lib.hid hb
    have hbn : b ≤ n + 20 := by omega
    rw [← hb, ← ha]
    rw [← ha] at hkn
    clear hperm hblk hS hrel hDl ha hb
    by_cases hle : b ≤ n
    · have hd : decide (b ≤ n) = true := by rw [decide_eq_true_eq]; omega
      have hd2 : decide ((b : Int) ≤ (n : Int)) = true := by rw [decide_eq_true_eq]; omega
      have hab : b = a + 20 := by have := HA.out; have := HB.out; omega
      obtain ⟨P, X, R, rfl, hP, hX, hR⟩ := cut_three D' a b (by omega) (by have := HDL.out; omega)
      have HIN := Lib.hid (ins6_any (w := wr) P X R ⟨HS.out.len, HS.out.row, Keep.refl _ _⟩ hn hnc HNM.out a b hP hX)
      have HAB := Lib.hid hab
      clear hab
      have HP := Lib.hid hP; have HX := Lib.hid hX
      clear hP hX hR
      go_wp2_with (go_at_call 45; (with_reducible refine HIN.out.mono ?_); rintro e w2 ⟨rfl, h2⟩; have H2 := Lib.hid h2; clear h2)
      go_roundw
      case rel =>
        obtain ⟨X', p1, p2, p3⟩ := H2.out.ex
        have hx := HX.out
        have hab := HAB.out
        have hk20 : b = (k + 1) * 20 := by have := HA.out; omega
        refine ⟨k + 1, P ++ X' ++ R, by rw [hk20], by rw [hk20]; go_num, by omega, ?_, HBL.out.ins (by rw [HP.out, HA.out]) (.inl (by omega)) p1 p2, ⟨p3.len, p3.row, HS.out.keep.trans p3.keep (fun _ h => .inl h)⟩⟩
        exact ((p1.append_left P).append_right R).trans HPM.out
      case measure => have := HAB.out; simp [intOf]; omega
    · have hd : decide (b ≤ n) = false := by rw [decide_eq_false_iff_not]; omega
      have hd2 : decide ((b : Int) ≤ (n : Int)) = false := by rw [decide_eq_false_iff_not]; omega
      obtain ⟨P, X, R, rfl, hP, hX, hR⟩ := cut_three D' a n hkn (by have := HDL.out; omega)
      have HIN := Lib.hid (ins6_any (w := wr) P X R ⟨HS.out.len, HS.out.row, Keep.refl _ _⟩ hn hnc HNM.out a n hP hX)
      have hRn := hR (by have := HDL.out; omega)
      have HP := Lib.hid hP; have HX := Lib.hid hX; have HR := Lib.hid hRn
      clear hP hX hR hRn
      go_wp2_with (go_at_call 45; (with_reducible refine HIN.out.mono ?_); rintro e w2 ⟨rfl, h2⟩; have H2 := Lib.hid h2; clear h2)
      have H0 : Hid (StB w g o cap n D (.int .i64 20) w2) := Lib.hid (by
        obtain ⟨X', p1, p2, p3⟩ := H2.out.ex
        have hx := HX.out
        have hx2 := p1.length_eq
        have hp := HP.out
        have hb := HBL.out.ins (by rw [HP.out, HA.out]) (.inr ⟨by have := HA.out; have := HB.out; omega, HR.out⟩) p1 p2
        refine ⟨20, P ++ X' ++ R, rfl, by omega, by omega, ((p1.append_left P).append_right R).trans HPM.out, hb.all ?_, ⟨p3.len, p3.row, HS.out.keep.trans p3.keep (fun _ h => .inl h)⟩⟩
        have := HA.out; have := HB.out
        rw [HR.out]
        simp only [List.length_append, List.length_nil]
        omega)
      clear hd hd2 hle HIN
      go_wp2
      obtain ⟨wz, hwz⟩ : ∃ wz, wz = wr := ⟨wr, rfl⟩
      subst wr
      clear HPM HBL HS HDL HP HX HR H2 HA HB hbn hkn
      go_loopw [6, 7, 8, 9] (fun sv _ _ _ wr => StB w g o cap n D sv wr) (fun sv _ _ _ _ => 4 * n + 40 - (intOf sv).toNat)
      case atStart => exact H0.out
      case round =>
        obtain ⟨s, D', rfl, hs1, hs2, hperm, hall, hS⟩ := hrel.ex
        have HPM := Lib.hid hperm; have HAL := Lib.hid hall; have HS := Lib.hid hS
        clear hperm hall hS hrel H0
        by_cases hlt : s < n
        · have hd : decide (s < n) = true := by rw [decide_eq_true_eq]; omega
          obtain ⟨t, ht⟩ : ∃ t, t = 2 * s := ⟨_, rfl⟩
          have es : (2 : Int) * (s : Int) = (t : Int) := by omega
          have es2 : (s : Int) * 2 = (t : Int) := by omega
          have htn : t ≤ 6400 := by omega
          have ht0 : 0 < t := by omega
          have HT := Lib.hid ht
          have H0 : Hid (StC w g o cap n s D (.int .i64 0) (.int .i64 (t : Int)) wr) := Lib.hid ⟨0, 0, D', by omega, rfl, by rw [ht]; go_num, by omega, HPM.out, HAL.out.mer, HS.out⟩
          clear HPM HAL HS ht
          go_wp2
          obtain ⟨wy, hwy⟩ : ∃ wy, wy = wr := ⟨wr, rfl⟩
          subst wr
          go_loopw [7, 8] (fun av bv wr => StC w g o cap n s D av bv wr) (fun av _ _ => n + 1 - (intOf av).toNat)
          case atStart => exact H0.out
          case round =>
            obtain ⟨k, a, D', hka, rfl, rfl, han, hperm, hmer, hS⟩ := hrel.ex
            obtain ⟨b, hb⟩ : ∃ b, b = a + 2 * s := ⟨_, rfl⟩
            rw [← hb]
            obtain ⟨m, hm⟩ : ∃ m, m = a + s := ⟨_, rfl⟩
            have em : (a : Int) + (s : Int) = (m : Int) := by omega
            have hb9 : b ≤ 12800 := by omega
            have HPM := Lib.hid hperm; have HME := Lib.hid hmer; have HS := Lib.hid hS
            have HDL := Lib.hid hS.len
            have HKA := Lib.hid hka; have HB := Lib.hid hb; have HM := Lib.hid hm
            clear hperm hmer hS hrel H0 hka hb
            by_cases hle : b ≤ n
            · have hd3 : decide (b ≤ n) = true := by rw [decide_eq_true_eq]; omega
              have hd4 : decide ((b : Int) ≤ (n : Int)) = true := by rw [decide_eq_true_eq]; omega
              obtain ⟨P, X, R, rfl, hP, hX, _⟩ := cut_three D' a b (by have := HB.out; omega) (by have := HDL.out; omega)
              have hXl : X.length = 2 * s := by have := HB.out; omega
              obtain ⟨X1, X2, rfl, h1⟩ : ∃ X1 X2, X = X1 ++ X2 ∧ X1.length = s := ⟨_, _, (List.take_append_drop s X).symm, by rw [List.length_take]; omega⟩
              have h2 : X2.length = s := by rw [List.length_append] at hXl; omega
              have hPk : P.length = k * (2 * s) := by rw [hP]; exact HKA.out
              obtain ⟨r1, r2⟩ := HME.out.two hPk h1 (.inl h2)
              have HSM := Lib.hid (HSY.out wr P X1 X2 R a m b ⟨HS.out.len, HS.out.row, Keep.refl _ _⟩ r1 r2 (fun e => by rw [e] at h1; simp at h1; omega) (fun e => by rw [e] at h2; simp at h2; omega) hP (by omega) (by have := HB.out; omega))
              have HXL := Lib.hid hXl; have HPK := Lib.hid hPk
              clear hP hX hXl h1 h2 hPk r1 r2 hm
              go_wp2_with (go_at_call 46; (with_reducible refine HSM.out.mono ?_); rintro e w3 ⟨rfl, h2⟩; have H3 := Lib.hid h2; clear h2)
              go_roundw
              case rel =>
                obtain ⟨X', p1, p2, p3⟩ := H3.out.ex
                have hbk : b = (k + 1) * (2 * s) := by rw [HB.out, HKA.out, Nat.add_mul, Nat.one_mul]
                refine ⟨k + 1, b, P ++ X' ++ R, hbk, rfl, by have := HT.out; go_num, hle, ((p1.append_left P).append_right R).trans HPM.out, HME.out.step HPK.out (.inl HXL.out) p1 p2, ⟨p3.len, p3.row, HS.out.keep.trans p3.keep (fun _ h => .inl h)⟩⟩
              case measure => have := HB.out; simp [intOf]; omega
            · have hd3 : decide (b ≤ n) = false := by rw [decide_eq_false_iff_not]; omega
              have hd4 : decide ((b : Int) ≤ (n : Int)) = false := by rw [decide_eq_false_iff_not]; omega
              by_cases hmn : m < n
              · have hd5 : decide (m < n) = true := by rw [decide_eq_true_eq]; omega
                have hd6 : decide ((m : Int) < (n : Int)) = true := by rw [decide_eq_true_eq]; omega
                obtain ⟨P, X, R, rfl, hP, hX, hR⟩ := cut_three D' a n han (by have := HDL.out; omega)
                have hRn := hR (by have := HDL.out; omega)
                subst hRn
                obtain ⟨X1, X2, rfl, h1⟩ : ∃ X1 X2, X = X1 ++ X2 ∧ X1.length = s := ⟨_, _, (List.take_append_drop s X).symm, by rw [List.length_take]; omega⟩
                have hX' := hX
                rw [List.length_append] at hX'
                have hPk : P.length = k * (2 * s) := by rw [hP]; exact HKA.out
                have hXl : (X1 ++ X2).length ≤ 2 * s := by have := HB.out; omega
                obtain ⟨r1, r2⟩ := HME.out.two hPk h1 (.inr ⟨by have := HB.out; omega, rfl⟩)
                have HSM := Lib.hid (HSY.out wr P X1 X2 [] a m n ⟨HS.out.len, HS.out.row, Keep.refl _ _⟩ r1 r2 (fun e => by rw [e] at h1; simp at h1; omega) (fun e => by rw [e] at hX'; simp at hX'; omega) hP (by omega) (by omega))
                have HXL := Lib.hid hXl; have HPK := Lib.hid hPk; have HXN := Lib.hid hX
                clear hP hX hX' hXl h1 hPk r1 r2 hm hR
                go_wp2_with (go_at_call 46; (with_reducible refine HSM.out.mono ?_); rintro e w3 ⟨rfl, h2⟩; have H3 := Lib.hid h2; clear h2)
                go_roundw
                case rel =>
                  obtain ⟨X', p1, p2, p3⟩ := H3.out.ex
                  have hst := HME.out.step HPK.out (.inr ⟨HXL.out, rfl⟩) p1 p2
                  have hpl := ((p1.append_left P).append_right []).length_eq
                  have hal := hst.all (by
                    have := HDL.out; have := HB.out; have := HKA.out
                    rw [hpl, Nat.add_mul, Nat.one_mul]; omega)
                  rw [← HT.out] at hal
                  exact ⟨t, P ++ X' ++ [], rfl, by have := HT.out; omega, by have := HT.out; omega, ((p1.append_left P).append_right []).trans HPM.out, hal, ⟨p3.len, p3.row, HS.out.keep.trans p3.keep (fun _ h => .inl h)⟩⟩
                case measure => have := HT.out; simp [intOf]; omega
              · have hd5 : decide (m < n) = false := by rw [decide_eq_false_iff_not]; omega
                have hd6 : decide ((m : Int) < (n : Int)) = false := by rw [decide_eq_false_iff_not]; omega
                clear hm
                go_wp2
                go_roundw
                case rel =>
                  have hal := HME.out.all (by have := HDL.out; have := HM.out; have := HKA.out; omega)
                  rw [← HT.out] at hal
                  exact ⟨t, D', rfl, by have := HT.out; omega, by have := HT.out; omega, HPM.out, hal, HS.out⟩
                case measure => have := HT.out; simp [intOf]; omega
        · have hd : decide (s < n) = false := by rw [decide_eq_false_iff_not]; omega
          go_wp2
          go_end0
          refine ⟨rfl, ⟨D', HPM.out, HAL.out.whole (by have := HS.out.len; omega), ?_⟩⟩
          simpa using HS.out


theorem sort6_any {w : World} {g o cap n : Nat} (D : List Ent) (h : SoR w g o cap n D w) (hn : n ≤ 3200) (hnc : n ≤ cap) (hcm : cap ≤ maxLen) (hsym : SymM g o cap n) :
    Calls Try.prog 24 #[.slice (some ⟨g, o, none⟩) n cap, .func (.func 25) #[] #[]] w fun e w' => e = .returned (.tuple #[]) ∧ SrtA w g o cap n [] D [] w' := by
  have HS := Lib.hid (stb6_any D h hn hnc hcm hsym)
  clear h hsym
  go_enter Try.func24, Try.ntmps24
  go_wp2_with (go_at_call 35; (with_reducible refine HS.out.mono ?_); rintro e w2 ⟨rfl, h2⟩; have H2 := Lib.hid h2; clear h2)
  go_end0
  exact ⟨rfl, H2.out⟩

end Go.Proofs.Ytejeadccpigepaa.Dir
