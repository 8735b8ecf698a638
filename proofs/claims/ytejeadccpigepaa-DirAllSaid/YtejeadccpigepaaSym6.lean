/- dirfs: symMerge. -/
import Derived.Test.YtejeadccpigepaaStb6
import Derived.Test.YtejeadccpigepaaBlk6
import Derived.Test.YtejeadccpigepaaRot6
import Derived.Test.YtejeadccpigepaaDel6
namespace Go.Proofs.Ytejeadccpigepaa.Dir
open Go.RowKit Go.Maps Go.Proofs.Ytejeadccpigepaa Go.Proofs.Ytejeadccpigepaa.Ino
set_option maxRecDepth 100000

/-- The first search: i and j draw near. -/
structure SyA (w0 : World) (g o cap n m b : Nat) (x : Ent) (D : List Ent) (iv jv : Value) (wr : World) : Prop where
  ex : ∃ i j : Nat, iv = .int .i64 (i : Int) ∧ jv = .int .i64 (j : Int) ∧ m ≤ i ∧ i ≤ j ∧ j ≤ b ∧ (m < i → ∀ y, D[i - 1]? = some y → ltE y x = true) ∧ (j < b → ∀ y, D[j]? = some y → ltE y x = false) ∧ SoR w0 g o cap n D wr

/-- The first exchanges: x goes up. -/
structure SyS (w0 : World) (g o cap n a : Nat) (x : Ent) (P Z1 Z2 R : List Ent) (kv : Value) (wr : World) : Prop where
  ex : ∃ (k : Nat) (U V : List Ent), kv = .int .i64 (k : Int) ∧ Z1 = U ++ V ∧ a + U.length = k ∧ SoR w0 g o cap n (P ++ (U ++ x :: V) ++ Z2 ++ R) wr

set_option maxHeartbeats 4000000 in
theorem sym_one {w : World} {g o cap n : Nat} (P X2 R : List Ent) (x : Ent) (h : SoR w g o cap n (P ++ ([x] ++ X2) ++ R) w) (hr : Ris ltE X2) (hn : n ≤ 3200) (hnc : n ≤ cap) (hcm : cap ≤ maxLen) (a m b : Nat) (ha : P.length = a) (hm : a + 1 = m) (hb : m + X2.length = b) :
    Calls Try.prog 46 #[.slice (some ⟨g, o, none⟩) n cap, .int .i64 (a : Int), .int .i64 (m : Int), .int .i64 (b : Int), .func (.func 25) #[] #[]] w fun e w' => e = .returned (.tuple #[]) ∧ SrtA w g o cap n P ([x] ++ X2) R w' := by
  have hen := Try.enList2
  have H := Lib.hid h
  have hbn : b ≤ n := by have := h.len; simp only [List.length_append, List.length_singleton] at this; omega
  have HR := Lib.hid hr; have HA := Lib.hid ha; have HB := Lib.hid hb
  have hmb : m ≤ b := by omega
  have e1 : (m : Int) - (a : Int) = 1 := by omega
  have HM := Lib.hid hm
  unfold maxLen at hcm
  obtain ⟨D, hD⟩ : ∃ D, D = P ++ ([x] ++ X2) ++ R := ⟨_, rfl⟩
  have HD := Lib.hid hD
  have H2 : Hid (SoR w g o cap n D w) := Lib.hid (by rw [hD]; exact h)
  clear h hr ha hb hm hD H
  go_enter Try.func46, Try.ntmps46
  go_wp2
  clear e1
  go_loopw [10, 11, 12] (fun iv jv _ wr => SyA w g o cap n m b x D iv jv wr) (fun iv jv _ _ => (intOf jv).toNat - (intOf iv).toNat)
  case atStart => exact ⟨m, b, rfl, rfl, by omega, hmb, by omega, fun h => by omega, fun h => by omega, H2.out⟩
  case round =>
    obtain ⟨i, j, rfl, rfl, hmi, hij, hjb, hlo, hhi, hS⟩ := hrel.ex
    have HS := Lib.hid hS; have HLO := Lib.hid hlo; have HHI := Lib.hid hhi
    clear hS hlo hhi hrel H2
    by_cases hlt : i < j
    · have hd : decide (i < j) = true := by rw [decide_eq_true_eq]; omega
      obtain ⟨c, hc⟩ : ∃ c, c = (i + j) / 2 := ⟨_, rfl⟩
      obtain ⟨t, ht⟩ : ∃ t, t = i + j := ⟨_, rfl⟩
      have et : (i : Int) + (j : Int) = (t : Int) := by omega
      have ec : (t : Int) / 2 = (c : Int) := by omega
      have htn : t ≤ 6400 := by omega
      have hcn : c < n := by omega
      have hci : i ≤ c := by omega
      have hcj : c < j := by omega
      clear ht hc
      have hDl := HS.out.len
      obtain ⟨y, hly⟩ : ∃ y, D[c]? = some y := ⟨_, List.getElem?_eq_getElem (by omega)⟩
      have hlx : D[a]? = some x := by
        rw [HD.out, ← HA.out]; simp
      have hal : a < D.length := (List.getElem?_eq_some_iff.1 hlx).1
      have hcl : c < D.length := (List.getElem?_eq_some_iff.1 hly).1
      have han : a < n := by omega
      obtain ⟨cx0, cx1, _, _⟩ := HS.out.cell (i := a) han hal
      obtain ⟨cy0, cy1, _, _⟩ := HS.out.cell (i := c) hcn hcl
      rw [(List.getElem?_eq_some_iff.1 hlx).2] at cx0 cx1
      rw [(List.getElem?_eq_some_iff.1 hly).2] at cy0 cy1
      have HLY := Lib.hid hly
      obtain ⟨z, hz⟩ : ∃ z, z = Lib.compareBytes y.1 x.1 := ⟨_, rfl⟩
      have HC : Hid (∀ w2 : World, Calls Try.prog 25 #[.agg #[.string ⟨y.1.toArray⟩, .int .i64 (y.2 : Int)], .agg #[.string ⟨x.1.toArray⟩, .int .i64 (x.2 : Int)]] w2 fun e w' => e = .returned (.int .i64 z) ∧ Keep (fun _ => False) w2 w') := Lib.hid (fun w2 => by rw [hz]; exact cmpE_any _ _ _ _)
      have HZ := Lib.hid hz
      clear hz hly hlx hal hcl hDl
      go_wp2
      cases hl : decide (z < 0)
      · go_region_held3 (fun w' => w'.cell? ⟨g, o + c * 2, none⟩ = some (.string ⟨y.1.toArray⟩) ∧ w'.cell? ⟨g, o + c * 2 + 1, none⟩ = some (.int .i64 (y.2 : Int)) ∧ w'.cell? ⟨g, o + a * 2, none⟩ = some (.string ⟨x.1.toArray⟩) ∧ w'.cell? ⟨g, o + a * 2 + 1, none⟩ = some (.int .i64 (x.2 : Int))) (go_keep) (first
          | (go_at_call 25; (with_reducible refine (HC.out _).mono ?_); rintro e w2 ⟨rfl, k2⟩; have K2 := Lib.hid (((Keep.refl (fun _ => False) wr).drew).trans k2 (fun _ h => h.elim) : Keep (fun _ => False) wr w2); have d1 := (k2.cell (World.block_lt_of_cell? _ _ cx0) (fun h => h) (o + c * 2)).trans cy0; have d2 := (k2.cell (World.block_lt_of_cell? _ _ cx0) (fun h => h) (o + c * 2 + 1)).trans cy1; have d3 := (k2.cell (World.block_lt_of_cell? _ _ cx0) (fun h => h) (o + a * 2)).trans cx0; have d4 := (k2.cell (World.block_lt_of_cell? _ _ cx0) (fun h => h) (o + a * 2 + 1)).trans cx1; clear k2))
        have HL0 := Lib.hid hl
        clear hl d1 d2 d3 d4 cx0 cx1 cy0 cy1
        go_wp2_with fail
        go_roundw
        case rel => exact ⟨i, c, rfl, rfl, hmi, hci, by omega, HLO.out, fun _ y' hy' => by
          rw [HLY.out] at hy'
          cases hy'
          rw [ltE, ← HZ.out]; exact HL0.out, HS.out.go K2.out⟩
        case measure => simp [intOf]; omega
      · go_region_held3 (fun w' => w'.cell? ⟨g, o + c * 2, none⟩ = some (.string ⟨y.1.toArray⟩) ∧ w'.cell? ⟨g, o + c * 2 + 1, none⟩ = some (.int .i64 (y.2 : Int)) ∧ w'.cell? ⟨g, o + a * 2, none⟩ = some (.string ⟨x.1.toArray⟩) ∧ w'.cell? ⟨g, o + a * 2 + 1, none⟩ = some (.int .i64 (x.2 : Int))) (go_keep) (first
          | (go_at_call 25; (with_reducible refine (HC.out _).mono ?_); rintro e w2 ⟨rfl, k2⟩; have K2 := Lib.hid (((Keep.refl (fun _ => False) wr).drew).trans k2 (fun _ h => h.elim) : Keep (fun _ => False) wr w2); have d1 := (k2.cell (World.block_lt_of_cell? _ _ cx0) (fun h => h) (o + c * 2)).trans cy0; have d2 := (k2.cell (World.block_lt_of_cell? _ _ cx0) (fun h => h) (o + c * 2 + 1)).trans cy1; have d3 := (k2.cell (World.block_lt_of_cell? _ _ cx0) (fun h => h) (o + a * 2)).trans cx0; have d4 := (k2.cell (World.block_lt_of_cell? _ _ cx0) (fun h => h) (o + a * 2 + 1)).trans cx1; clear k2))
        have HL0 := Lib.hid hl
        clear hl d1 d2 d3 d4 cx0 cx1 cy0 cy1
        go_wp2_with fail
        go_roundw
        case rel => exact ⟨c + 1, j, by go_num, rfl, by omega, by omega, hjb, fun _ y' hy' => by
          rw [Nat.add_sub_cancel, HLY.out] at hy'
          cases hy'
          rw [ltE, ← HZ.out]; exact HL0.out, HHI.out, HS.out.go K2.out⟩
        case measure => simp [intOf]; omega
    · have hd : decide (i < j) = false := by rw [decide_eq_false_iff_not]; omega
      obtain rfl : i = j := by omega
      obtain ⟨q, hq⟩ : ∃ q, q = i - 1 := ⟨_, rfl⟩
      have eq1 : (i : Int) - 1 = (q : Int) := by have := HM.out; omega
      have hqn : q < n := by have := HM.out; omega
      have haq : a ≤ q := by have := HM.out; omega
      obtain ⟨Z1, Z2, hZ, hzl⟩ : ∃ Z1 Z2, X2 = Z1 ++ Z2 ∧ Z1.length = i - m := ⟨_, _, (List.take_append_drop (i - m) X2).symm, by rw [List.length_take]; have := HB.out; omega⟩
      have hris : Ris ltE (Z1 ++ x :: Z2) := place_one (by rw [HD.out, hZ]) (by rw [← hZ]; exact HR.out) (by rw [HA.out]; exact HM.out) (by omega) HLO.out (fun hz => HHI.out (by have := HB.out; rw [hZ, List.length_append] at this; omega))
      have H0 : Hid (SyS w g o cap n a x P Z1 Z2 R (.int .i64 (a : Int)) wr) := Lib.hid ⟨a, [], Z1, rfl, rfl, by simp, by simpa [HD.out, hZ] using HS.out⟩
      have HRI := Lib.hid hris; have HZE := Lib.hid hZ
      have hzq : a + Z1.length = q := by have := HM.out; omega
      have HZQ := Lib.hid hzq
      clear hris hZ hzl hzq hq HS HLO HHI
      go_wp2
      obtain ⟨wz, hwz⟩ : ∃ wz, wz = wr := ⟨wr, rfl⟩
      subst wr
      go_loopw [13] (fun kv wr => SyS w g o cap n a x P Z1 Z2 R kv wr) (fun kv _ => n - (intOf kv).toNat)
      case atStart => exact H0.out
      case round =>
        obtain ⟨k, U, V, rfl, hUV, hUl, hS⟩ := hrel.ex
        have HS := Lib.hid hS; have HUV := Lib.hid hUV; have HUL := Lib.hid hUl
        have hkl : U.length + V.length = Z1.length := by rw [hUV, List.length_append]
        have HKL := Lib.hid hkl
        clear hS hUV hUl hrel H0 hkl
        by_cases hkq : k < q
        · have hd2 : decide (k < q) = true := by rw [decide_eq_true_eq]; omega
          have hd3 : decide ((k : Int) < (q : Int)) = true := by rw [decide_eq_true_eq]; omega
          obtain ⟨y, V', hV⟩ := List.exists_cons_of_ne_nil (l := V) (fun e => by
            have h1 := HKL.out; have h2 := HUL.out; have h3 := HZQ.out
            rw [e, List.length_nil] at h1; omega)
          subst hV
          obtain ⟨r, hrr⟩ : ∃ r, r = k + 1 := ⟨_, rfl⟩
          have er : (k : Int) + 1 = (r : Int) := by omega
          have hrn : r < n := by omega
          have hkn : k < n := by omega
          have hD2 : P ++ (U ++ x :: y :: V') ++ Z2 ++ R = (P ++ U) ++ x :: y :: (V' ++ Z2 ++ R) := by simp
          have hS := HS.out
          rw [hD2] at hS
          have hPU : (P ++ U).length = k := by have := HUL.out; have := HA.out; rw [List.length_append]; omega
          have q1 : ((P ++ U) ++ x :: y :: (V' ++ Z2 ++ R))[k]? = some x := by rw [List.getElem?_append_right (by omega), hPU, Nat.sub_self]; rfl
          have q2 : ((P ++ U) ++ x :: y :: (V' ++ Z2 ++ R))[r]? = some y := by rw [List.getElem?_append_right (by omega), hPU, hrr, Nat.add_sub_cancel_left]; rfl
          have hla := (List.getElem?_eq_some_iff.1 q1).1
          have hlb := (List.getElem?_eq_some_iff.1 q2).1
          obtain ⟨cx0, cx1, fx0, fx1⟩ := hS.cell (i := k) hkn hla
          obtain ⟨cy0, cy1, fy0, fy1⟩ := hS.cell (i := r) hrn hlb
          rw [(List.getElem?_eq_some_iff.1 q1).2] at cx0 cx1
          rw [(List.getElem?_eq_some_iff.1 q2).2] at cy0 cy1
          have hset : (((P ++ U) ++ x :: y :: (V' ++ Z2 ++ R)).set k y).set r x = P ++ ((U ++ [y]) ++ x :: V') ++ Z2 ++ R := by
            rw [List.set_append_right _ _ (by omega), List.set_append_right _ _ (by omega), hPU, hrr, Nat.sub_self, Nat.add_sub_cancel_left]
            simp
          have HNEW : Hid (SyS w g o cap n a x P Z1 Z2 R (.int .i64 (r : Int)) ((((wr.setCell ⟨g, o + k * 2, none⟩ (.string ⟨y.1.toArray⟩)).setCell ⟨g, o + k * 2 + 1, none⟩ (.int .i64 (y.2 : Int))).setCell ⟨g, o + r * 2, none⟩ (.string ⟨x.1.toArray⟩)).setCell ⟨g, o + r * 2 + 1, none⟩ (.int .i64 (x.2 : Int))).drew) := Lib.hid (by
            have h1 := ((hS.put k y).put r x).drew
            rw [hset] at h1
            refine ⟨r, U ++ [y], V', rfl, by rw [HUV.out]; simp, ?_, h1⟩
            have := HUL.out
            simp only [List.length_append, List.length_singleton]; omega)
          have hgl : g < wr.heap.size := hS.row.lt (k := g) rfl
          have HRR := Lib.hid hrr
          have hkr : k < r := by omega
          clear hD2 hS hPU q1 q2 hla hlb hset hrr
          go_wp2
          go_region
          all_goals go_wp2
          all_goals
            go_roundw
            case rel => exact HNEW.out
            case measure => simp [intOf]; omega
        · have hd2 : decide (k < q) = false := by rw [decide_eq_false_iff_not]; omega
          have hd3 : decide ((k : Int) < (q : Int)) = false := by rw [decide_eq_false_iff_not]; omega
          have hV : V = [] := List.eq_nil_of_length_eq_zero (by have := HKL.out; have := HUL.out; have := HZQ.out; omega)
          subst hV
          have hend : SrtA w g o cap n P ([x] ++ X2) R wr := ⟨⟨Z1 ++ x :: Z2, by rw [HZE.out]; exact List.perm_middle, HRI.out, by
            have h1 := HS.out
            have h2 := HUV.out
            rw [List.append_nil] at h2
            rw [← h2] at h1
            simpa using h1⟩⟩
          have HEND := Lib.hid hend
          clear hend
          go_wp2
          refine bodyPost_ret (results_none rfl _ _ _) rfl ?_
          exact ⟨rfl, HEND.out⟩

end Go.Proofs.Ytejeadccpigepaa.Dir
/- dirfs: symMerge, where the second part is one entry. -/
namespace Go.Proofs.Ytejeadccpigepaa.Dir
open Go.RowKit Go.Maps Go.Proofs.Ytejeadccpigepaa Go.Proofs.Ytejeadccpigepaa.Ino
set_option maxRecDepth 100000

/-- The second search. -/
structure SyB (w0 : World) (g o cap n a m : Nat) (x : Ent) (D : List Ent) (iv jv : Value) (wr : World) : Prop where
  ex : ∃ i j : Nat, iv = .int .i64 (i : Int) ∧ jv = .int .i64 (j : Int) ∧ a ≤ i ∧ i ≤ j ∧ j ≤ m ∧ (a < i → ∀ y, D[i - 1]? = some y → ltE x y = false) ∧ (j < m → ∀ y, D[j]? = some y → ltE x y = true) ∧ SoR w0 g o cap n D wr

/-- The second exchanges: x goes down. -/
structure SyT (w0 : World) (g o cap n i : Nat) (x : Ent) (P Y1 Y2 R : List Ent) (kv : Value) (wr : World) : Prop where
  ex : ∃ (k : Nat) (U V : List Ent), kv = .int .i64 (k : Int) ∧ Y2 = U ++ V ∧ i + U.length = k ∧ SoR w0 g o cap n (P ++ Y1 ++ (U ++ x :: V) ++ R) wr

set_option maxHeartbeats 4000000 in
theorem sym_last {w : World} {g o cap n : Nat} (P X1 R : List Ent) (x : Ent) (h : SoR w g o cap n (P ++ (X1 ++ [x]) ++ R) w) (hr : Ris ltE X1) (hx2 : 2 ≤ X1.length) (hn : n ≤ 3200) (hnc : n ≤ cap) (hcm : cap ≤ maxLen) (a m b : Nat) (ha : P.length = a) (hm : a + X1.length = m) (hb : m + 1 = b) :
    Calls Try.prog 46 #[.slice (some ⟨g, o, none⟩) n cap, .int .i64 (a : Int), .int .i64 (m : Int), .int .i64 (b : Int), .func (.func 25) #[] #[]] w fun e w' => e = .returned (.tuple #[]) ∧ SrtA w g o cap n P (X1 ++ [x]) R w' := by
  have hen := Try.enList2
  have H := Lib.hid h
  have hbn : b ≤ n := by have := h.len; simp only [List.length_append, List.length_singleton] at this; omega
  have HR := Lib.hid hr; have HA := Lib.hid ha; have HB := Lib.hid hb
  have ham : a ≤ m := by omega
  have hmn : m < n := by omega
  obtain ⟨d, hdd⟩ : ∃ d, d = X1.length := ⟨_, rfl⟩
  have e1 : (m : Int) - (a : Int) = (d : Int) := by omega
  have e1' : ((d : Int) == 1) = false := by rw [beq_eq_false_iff_ne]; omega
  have e2 : (b : Int) - (m : Int) = 1 := by omega
  have HM := Lib.hid hm
  unfold maxLen at hcm
  obtain ⟨D, hD⟩ : ∃ D, D = P ++ (X1 ++ [x]) ++ R := ⟨_, rfl⟩
  have HD := Lib.hid hD
  have H2 : Hid (SoR w g o cap n D w) := Lib.hid (by rw [hD]; exact h)
  clear h hr ha hb hm hD H hx2 hdd
  go_enter Try.func46, Try.ntmps46
  go_wp2
  clear e1 e1' e2
  go_loopw [14, 15, 16] (fun iv jv _ wr => SyB w g o cap n a m x D iv jv wr) (fun iv jv _ _ => (intOf jv).toNat - (intOf iv).toNat)
  case atStart => exact ⟨a, m, rfl, rfl, by omega, ham, by omega, fun h => by omega, fun h => by omega, H2.out⟩
  case round =>
    obtain ⟨i, j, rfl, rfl, hmi, hij, hjb, hlo, hhi, hS⟩ := hrel.ex
    have HS := Lib.hid hS; have HLO := Lib.hid hlo; have HHI := Lib.hid hhi
    clear hS hlo hhi hrel H2
    by_cases hlt : i < j
    · have hd : decide (i < j) = true := by rw [decide_eq_true_eq]; omega
      obtain ⟨c, hc⟩ : ∃ c, c = (i + j) / 2 := ⟨_, rfl⟩
      obtain ⟨t, ht⟩ : ∃ t, t = i + j := ⟨_, rfl⟩
      have et : (i : Int) + (j : Int) = (t : Int) := by omega
      have ec : (t : Int) / 2 = (c : Int) := by omega
      have htn : t ≤ 6400 := by omega
      have hcn : c < n := by omega
      have hci : i ≤ c := by omega
      have hcj : c < j := by omega
      clear ht hc
      have hDl := HS.out.len
      obtain ⟨y, hly⟩ : ∃ y, D[c]? = some y := ⟨_, List.getElem?_eq_getElem (by omega)⟩
      have hlx : D[m]? = some x := by
        have e : P ++ (X1 ++ [x]) ++ R = (P ++ X1) ++ x :: R := by simp
        have el : (P ++ X1).length = m := by have := HA.out; have := HM.out; rw [List.length_append]; omega
        rw [HD.out, e, List.getElem?_append_right (by omega), el, Nat.sub_self]; rfl
      have hal : m < D.length := (List.getElem?_eq_some_iff.1 hlx).1
      have hcl : c < D.length := (List.getElem?_eq_some_iff.1 hly).1
      obtain ⟨cx0, cx1, _, _⟩ := HS.out.cell (i := m) hmn hal
      obtain ⟨cy0, cy1, _, _⟩ := HS.out.cell (i := c) hcn hcl
      rw [(List.getElem?_eq_some_iff.1 hlx).2] at cx0 cx1
      rw [(List.getElem?_eq_some_iff.1 hly).2] at cy0 cy1
      have HLY := Lib.hid hly
      obtain ⟨z, hz⟩ : ∃ z, z = Lib.compareBytes x.1 y.1 := ⟨_, rfl⟩
      have HC : Hid (∀ w2 : World, Calls Try.prog 25 #[.agg #[.string ⟨x.1.toArray⟩, .int .i64 (x.2 : Int)], .agg #[.string ⟨y.1.toArray⟩, .int .i64 (y.2 : Int)]] w2 fun e w' => e = .returned (.int .i64 z) ∧ Keep (fun _ => False) w2 w') := Lib.hid (fun w2 => by rw [hz]; exact cmpE_any _ _ _ _)
      have HZ := Lib.hid hz
      clear hz hly hlx hal hcl hDl
      go_wp2
      cases hl : decide (z < 0)
      · go_region_held3 (fun w' => w'.cell? ⟨g, o + c * 2, none⟩ = some (.string ⟨y.1.toArray⟩) ∧ w'.cell? ⟨g, o + c * 2 + 1, none⟩ = some (.int .i64 (y.2 : Int)) ∧ w'.cell? ⟨g, o + m * 2, none⟩ = some (.string ⟨x.1.toArray⟩) ∧ w'.cell? ⟨g, o + m * 2 + 1, none⟩ = some (.int .i64 (x.2 : Int))) (go_keep) (first
          | (go_at_call 25; (with_reducible refine (HC.out _).mono ?_); rintro e w2 ⟨rfl, k2⟩; have K2 := Lib.hid (((Keep.refl (fun _ => False) wr).drew).trans k2 (fun _ h => h.elim) : Keep (fun _ => False) wr w2); have d1 := (k2.cell (World.block_lt_of_cell? _ _ cx0) (fun h => h) (o + c * 2)).trans cy0; have d2 := (k2.cell (World.block_lt_of_cell? _ _ cx0) (fun h => h) (o + c * 2 + 1)).trans cy1; have d3 := (k2.cell (World.block_lt_of_cell? _ _ cx0) (fun h => h) (o + m * 2)).trans cx0; have d4 := (k2.cell (World.block_lt_of_cell? _ _ cx0) (fun h => h) (o + m * 2 + 1)).trans cx1; clear k2))
        have HL0 := Lib.hid hl
        clear hl d1 d2 d3 d4 cx0 cx1 cy0 cy1
        go_wp2_with fail
        go_roundw
        case rel => exact ⟨c + 1, j, by go_num, rfl, by omega, by omega, hjb, fun _ y' hy' => by
          rw [Nat.add_sub_cancel, HLY.out] at hy'
          cases hy'
          rw [ltE, ← HZ.out]; exact HL0.out, HHI.out, HS.out.go K2.out⟩
        case measure => simp [intOf]; omega
      · go_region_held3 (fun w' => w'.cell? ⟨g, o + c * 2, none⟩ = some (.string ⟨y.1.toArray⟩) ∧ w'.cell? ⟨g, o + c * 2 + 1, none⟩ = some (.int .i64 (y.2 : Int)) ∧ w'.cell? ⟨g, o + m * 2, none⟩ = some (.string ⟨x.1.toArray⟩) ∧ w'.cell? ⟨g, o + m * 2 + 1, none⟩ = some (.int .i64 (x.2 : Int))) (go_keep) (first
          | (go_at_call 25; (with_reducible refine (HC.out _).mono ?_); rintro e w2 ⟨rfl, k2⟩; have K2 := Lib.hid (((Keep.refl (fun _ => False) wr).drew).trans k2 (fun _ h => h.elim) : Keep (fun _ => False) wr w2); have d1 := (k2.cell (World.block_lt_of_cell? _ _ cx0) (fun h => h) (o + c * 2)).trans cy0; have d2 := (k2.cell (World.block_lt_of_cell? _ _ cx0) (fun h => h) (o + c * 2 + 1)).trans cy1; have d3 := (k2.cell (World.block_lt_of_cell? _ _ cx0) (fun h => h) (o + m * 2)).trans cx0; have d4 := (k2.cell (World.block_lt_of_cell? _ _ cx0) (fun h => h) (o + m * 2 + 1)).trans cx1; clear k2))
        have HL0 := Lib.hid hl
        clear hl d1 d2 d3 d4 cx0 cx1 cy0 cy1
        go_wp2_with fail
        go_roundw
        case rel => exact ⟨i, c, rfl, rfl, hmi, hci, by omega, HLO.out, fun _ y' hy' => by
          rw [HLY.out] at hy'
          cases hy'
          rw [ltE, ← HZ.out]; exact HL0.out, HS.out.go K2.out⟩
        case measure => simp [intOf]; omega
    · have hd : decide (i < j) = false := by rw [decide_eq_false_iff_not]; omega
      obtain rfl : i = j := by omega
      obtain ⟨Y1, Y2, hY, hyl⟩ : ∃ Y1 Y2, X1 = Y1 ++ Y2 ∧ Y1.length = i - a := ⟨_, _, (List.take_append_drop (i - a) X1).symm, by rw [List.length_take]; have := HM.out; omega⟩
      have hris : Ris ltE (Y1 ++ x :: Y2) := place_last (by rw [HD.out, hY]) (by rw [← hY]; exact HR.out) HA.out (by omega) HLO.out (fun hz => HHI.out (by have := HM.out; rw [hY, List.length_append] at this; omega))
      have hyq : i + Y2.length = m := by have := HM.out; rw [hY, List.length_append] at this; omega
      have H0 : Hid (SyT w g o cap n i x P Y1 Y2 R (.int .i64 (m : Int)) wr) := Lib.hid ⟨m, Y2, [], rfl, by simp, hyq, by simpa [HD.out, hY] using HS.out⟩
      have HRI := Lib.hid hris; have HZE := Lib.hid hY; have HYL := Lib.hid hyl
      clear hris hY hyl hyq HS HLO HHI
      go_wp2
      obtain ⟨wz, hwz⟩ : ∃ wz, wz = wr := ⟨wr, rfl⟩
      subst wr
      go_loopw [17] (fun kv wr => SyT w g o cap n i x P Y1 Y2 R kv wr) (fun kv _ => (intOf kv).toNat)
      case atStart => exact H0.out
      case round =>
        obtain ⟨k, U, V, rfl, hUV, hUl, hS⟩ := hrel.ex
        have HS := Lib.hid hS; have HUV := Lib.hid hUV; have HUL := Lib.hid hUl
        have hkn0 : k ≤ m := by
          have := HM.out
          rw [HZE.out, hUV] at this
          simp only [List.length_append] at this
          have := HYL.out
          omega
        clear hS hUV hUl hrel H0
        by_cases hkq : i < k
        · have hd2 : decide (i < k) = true := by rw [decide_eq_true_eq]; omega
          have hd3 : decide ((i : Int) < (k : Int)) = true := by rw [decide_eq_true_eq]; omega
          obtain ⟨U', y, hU⟩ : ∃ U' y, U = U' ++ [y] := by
            rcases List.eq_nil_or_concat U with e | ⟨L, z, e⟩
            · have := HUL.out; rw [e] at this; simp at this; omega
            · exact ⟨L, z, by simpa using e⟩
          subst hU
          obtain ⟨r, hrr⟩ : ∃ r, k = r + 1 := ⟨k - 1, by omega⟩
          have er : (k : Int) - 1 = (r : Int) := by omega
          have hrn : r < n := by omega
          have hkn : k < n := by omega
          have hD2 : P ++ Y1 ++ (U' ++ [y] ++ x :: V) ++ R = (P ++ Y1 ++ U') ++ y :: x :: (V ++ R) := by simp
          have hS := HS.out
          rw [hD2] at hS
          have hPU : (P ++ Y1 ++ U').length = r := by have h1 := HUL.out; have h2 := HA.out; have h3 := HYL.out; simp only [List.length_append, List.length_singleton] at h1 ⊢; omega
          have q1 : ((P ++ Y1 ++ U') ++ y :: x :: (V ++ R))[r]? = some y := by rw [List.getElem?_append_right (by omega), hPU, Nat.sub_self]; rfl
          have q2 : ((P ++ Y1 ++ U') ++ y :: x :: (V ++ R))[k]? = some x := by rw [List.getElem?_append_right (by omega), hPU, hrr, Nat.add_sub_cancel_left]; rfl
          have hla := (List.getElem?_eq_some_iff.1 q1).1
          have hlb := (List.getElem?_eq_some_iff.1 q2).1
          obtain ⟨cy0, cy1, fy0, fy1⟩ := hS.cell (i := r) hrn hla
          obtain ⟨cx0, cx1, fx0, fx1⟩ := hS.cell (i := k) hkn hlb
          rw [(List.getElem?_eq_some_iff.1 q1).2] at cy0 cy1
          rw [(List.getElem?_eq_some_iff.1 q2).2] at cx0 cx1
          have hset : (((P ++ Y1 ++ U') ++ y :: x :: (V ++ R)).set k y).set r x = P ++ Y1 ++ (U' ++ x :: (y :: V)) ++ R := by
            rw [List.set_append_right _ _ (by omega), List.set_append_right _ _ (by omega), hPU, hrr, Nat.sub_self, Nat.add_sub_cancel_left]
            simp
          have HNEW : Hid (SyT w g o cap n i x P Y1 Y2 R (.int .i64 (r : Int)) ((((wr.setCell ⟨g, o + k * 2, none⟩ (.string ⟨y.1.toArray⟩)).setCell ⟨g, o + k * 2 + 1, none⟩ (.int .i64 (y.2 : Int))).setCell ⟨g, o + r * 2, none⟩ (.string ⟨x.1.toArray⟩)).setCell ⟨g, o + r * 2 + 1, none⟩ (.int .i64 (x.2 : Int))).drew) := Lib.hid (by
            have h1 := ((hS.put k y).put r x).drew
            rw [hset] at h1
            refine ⟨r, U', y :: V, rfl, by rw [HUV.out]; simp, ?_, h1⟩
            have := HUL.out
            simp only [List.length_append, List.length_singleton] at this; omega)
          have hgl : g < wr.heap.size := hS.row.lt (k := g) rfl
          have HRR := Lib.hid hrr
          have hkr : r < k := by omega
          have hk1 : 1 ≤ k := by omega
          clear hD2 hS hPU q1 q2 hla hlb hset hrr
          go_wp2
          go_region
          all_goals go_wp2
          all_goals
            go_roundw
            case rel => exact HNEW.out
            case measure => simp [intOf]; omega
        · have hd2 : decide (i < k) = false := by rw [decide_eq_false_iff_not]; omega
          have hd3 : decide ((i : Int) < (k : Int)) = false := by rw [decide_eq_false_iff_not]; omega
          have hU : U = [] := List.eq_nil_of_length_eq_zero (by have := HUL.out; omega)
          subst hU
          have hend : SrtA w g o cap n P (X1 ++ [x]) R wr := ⟨⟨Y1 ++ x :: Y2, by rw [HZE.out]; exact List.perm_middle.trans (List.perm_append_singleton _ _).symm, HRI.out, by
            have h1 := HS.out
            have h2 := HUV.out
            rw [List.nil_append] at h2
            rw [← h2] at h1
            simpa using h1⟩⟩
          have HEND := Lib.hid hend
          clear hend
          go_wp2
          refine bodyPost_ret (results_none rfl _ _ _) rfl ?_
          exact ⟨rfl, HEND.out⟩

end Go.Proofs.Ytejeadccpigepaa.Dir
/- dirfs: symMerge, where both parts are of two entries or more; symMerge whole. -/
namespace Go.Proofs.Ytejeadccpigepaa.Dir
open Go.RowKit Go.Maps Go.Proofs.Ytejeadccpigepaa Go.Proofs.Ytejeadccpigepaa.Ino
set_option maxRecDepth 100000

/-- What symMerge is to do, where it is about fewer than f entries. -/
def SymF (g o cap n f : Nat) : Prop := ∀ (w : World) (P X1 X2 R : List Ent) (a m b : Nat), X1.length + X2.length < f → SoR w g o cap n (P ++ (X1 ++ X2) ++ R) w → Ris ltE X1 → Ris ltE X2 → X1 ≠ [] → X2 ≠ [] → P.length = a → a + X1.length = m → m + X2.length = b →
  Calls Try.prog 46 #[.slice (some ⟨g, o, none⟩) n cap, .int .i64 (a : Int), .int .i64 (m : Int), .int .i64 (b : Int), .func (.func 25) #[] #[]] w fun e w' => e = .returned (.tuple #[]) ∧ SrtA w g o cap n P (X1 ++ X2) R w'

theorem sym_rec {w w1 : World} {g o cap n f : Nat} (HF : SymF g o cap n f) (P A B R : List Ent) (h : SoR w g o cap n (P ++ (A ++ B) ++ R) w1) (hf : A.length + B.length < f) (ra : Ris ltE A) (rb : Ris ltE B) (na : A ≠ []) (nb : B ≠ []) (a m b : Nat) (ha : P.length = a) (hm : a + A.length = m) (hb : m + B.length = b) :
    Calls Try.prog 46 #[.slice (some ⟨g, o, none⟩) n cap, .int .i64 (a : Int), .int .i64 (m : Int), .int .i64 (b : Int), .func (.func 25) #[] #[]] w1 fun e w' => e = .returned (.tuple #[]) ∧ SrtA w g o cap n P (A ++ B) R w' := by
  refine (HF w1 P A B R a m b hf ⟨h.len, h.row, Keep.refl _ _⟩ ra rb na nb ha hm hb).mono ?_
  rintro e w2 ⟨rfl, h2⟩
  obtain ⟨X', p1, p2, p3⟩ := h2.ex
  exact ⟨rfl, ⟨X', p1, p2, ⟨p3.len, p3.row, h.keep.trans p3.keep (fun _ h => .inl h)⟩⟩⟩

theorem sym_rot {w w1 : World} {g o cap n : Nat} (P U V R : List Ent) (h : SoR w g o cap n (P ++ U ++ V ++ R) w1) (hnc : n ≤ cap) (hcm : cap ≤ maxLen) (a m b : Nat) (ha : P.length = a) (hm : P.length + U.length = m) (hb : P.length + U.length + V.length = b) (hu : U ≠ []) (hv : V ≠ []) (f : Value) :
    Calls Try.prog 59 #[.slice (some ⟨g, o, none⟩) n cap, .int .i64 (a : Int), .int .i64 (m : Int), .int .i64 (b : Int), f] w1 fun e w' => e = .returned (.tuple #[]) ∧ SoR w g o cap n (P ++ V ++ U ++ R) w' := by
  refine (rot6_any (w := w1) P U V R ⟨h.len, h.row, Keep.refl _ _⟩ hnc hcm a m b ha hm hb hu hv f).mono ?_
  rintro e w2 ⟨rfl, p3⟩
  exact ⟨rfl, ⟨p3.len, p3.row, h.keep.trans p3.keep (fun _ h => .inl h)⟩⟩

theorem sym_join {Y1 Y2 Z1 Z2 W1 W2 : List Ent} (p1 : W1.Perm (Y1 ++ Z1)) (r1 : Ris ltE W1) (p2 : W2.Perm (Y2 ++ Z2)) (r2 : Ris ltE W2) (hx : ∀ u ∈ Y1 ++ Z1, ∀ v ∈ Y2 ++ Z2, ltE v u = false) : (W1 ++ W2).Perm ((Y1 ++ Y2) ++ (Z1 ++ Z2)) ∧ Ris ltE (W1 ++ W2) := by
  refine ⟨(p1.append p2).trans ?_, ris_append.2 ⟨r1, r2, fun u hu v hv => hx u (p1.mem_iff.1 hu) v (p2.mem_iff.1 hv)⟩⟩
  have h : (Z1 ++ (Y2 ++ Z2)).Perm (Y2 ++ (Z1 ++ Z2)) := by
    rw [← List.append_assoc, ← List.append_assoc]
    exact (List.perm_append_comm).append_right Z2
  have h2 := h.append_left Y1
  simpa using h2

/-- The third search: both ends draw near. -/
structure SyC (w0 : World) (g o cap n s0 r0 u : Nat) (D : List Ent) (sv rv : Value) (wr : World) : Prop where
  ex : ∃ s r : Nat, sv = .int .i64 (s : Int) ∧ rv = .int .i64 (r : Int) ∧ s0 ≤ s ∧ s ≤ r ∧ r ≤ r0 ∧ (s0 < s → ∀ x y, D[s - 1]? = some x → D[u - s]? = some y → ltE y x = false) ∧ (r < r0 → ∀ x y, D[r]? = some x → D[u - 1 - r]? = some y → ltE y x = true) ∧ SoR w0 g o cap n D wr

/-- The pieces at the cut, and what is to be done with them. -/
structure SyD (w0 : World) (g o cap n a m b q s e : Nat) (P X1 X2 R Y1 Y2 Z1 Z2 : List Ent) : Prop where
  x1 : X1 = Y1 ++ Y2
  x2 : X2 = Z1 ++ Z2
  hP : P.length = a
  l1 : a + Y1.length = s
  l2 : s + Y2.length = m
  l3 : m + Z1.length = e
  l4 : e + Z2.length = b
  lq : s + Z1.length = q
  r1 : Ris ltE Y1
  r2 : Ris ltE Y2
  r3 : Ris ltE Z1
  r4 : Ris ltE Z2
  cr : ∀ u ∈ Y1 ++ Z1, ∀ v ∈ Y2 ++ Z2, ltE v u = false

theorem nil_of {A : List Ent} {a b : Nat} (h : a + A.length = b) (e : a = b) : A = [] := List.eq_nil_of_length_eq_zero (by omega)
theorem ne_of {A : List Ent} {a b : Nat} (h : a + A.length = b) (e : a < b) : A ≠ [] := fun hn => by rw [hn] at h; simp at h; omega

section
variable {w0 : World} {g o cap n a m b q s e : Nat} {P X1 X2 R Y1 Y2 Z1 Z2 : List Ent}

theorem SyD.fin (h : SyD w0 g o cap n a m b q s e P X1 X2 R Y1 Y2 Z1 Z2) {w' : World} {W1 W2 : List Ent} (p1 : W1.Perm (Y1 ++ Z1)) (r1 : Ris ltE W1) (p2 : W2.Perm (Y2 ++ Z2)) (r2 : Ris ltE W2) (hs : SoR w0 g o cap n (P ++ W1 ++ W2 ++ R) w') : SrtA w0 g o cap n P (X1 ++ X2) R w' := by
  obtain ⟨j1, j2⟩ := sym_join p1 r1 p2 r2 h.cr
  refine ⟨⟨W1 ++ W2, by rw [h.x1, h.x2]; exact j1, j2, by simpa using hs⟩⟩

theorem SyD.rec1 (h : SyD w0 g o cap n a m b q s e P X1 X2 R Y1 Y2 Z1 Z2) (HF : SymF g o cap n (X1.length + X2.length)) {w1 : World} (hs : SoR w0 g o cap n (P ++ Y1 ++ Z1 ++ (Y2 ++ (Z2 ++ R))) w1) (h1 : a < s) (h2 : s < q) (h3 : Y2.length + Z2.length ≠ 0) :
    Calls Try.prog 46 #[.slice (some ⟨g, o, none⟩) n cap, .int .i64 (a : Int), .int .i64 (s : Int), .int .i64 (q : Int), .func (.func 25) #[] #[]] w1 fun e w' => e = .returned (.tuple #[]) ∧ SrtA w0 g o cap n P (Y1 ++ Z1) (Y2 ++ (Z2 ++ R)) w' :=
  sym_rec HF P Y1 Z1 _ (by simpa using hs) (by rw [h.x1, h.x2]; simp only [List.length_append]; omega) h.r1 h.r3 (ne_of h.l1 h1) (ne_of h.lq h2) a s q h.hP h.l1 h.lq

theorem SyD.rec2 (h : SyD w0 g o cap n a m b q s e P X1 X2 R Y1 Y2 Z1 Z2) (HF : SymF g o cap n (X1.length + X2.length)) {w1 : World} {W1 : List Ent} (p1 : W1.Perm (Y1 ++ Z1)) (hs : SoR w0 g o cap n (P ++ W1 ++ (Y2 ++ (Z2 ++ R))) w1) (h1 : s < m) (h2 : e < b) (h3 : Y1.length + Z1.length ≠ 0) :
    Calls Try.prog 46 #[.slice (some ⟨g, o, none⟩) n cap, .int .i64 (q : Int), .int .i64 (e : Int), .int .i64 (b : Int), .func (.func 25) #[] #[]] w1 fun e w' => e = .returned (.tuple #[]) ∧ SrtA w0 g o cap n (P ++ W1) (Y2 ++ Z2) R w' :=
  sym_rec HF (P ++ W1) Y2 Z2 R (by simpa using hs) (by rw [h.x1, h.x2]; simp only [List.length_append]; omega) h.r2 h.r4 (ne_of h.l2 h1) (ne_of h.l4 h2) q e b (by
    have := p1.length_eq; have := h.hP; have := h.l1; have := h.lq
    simp only [List.length_append] at *; omega) (by have := h.l2; have := h.l3; have := h.lq; omega) h.l4

theorem SyD.rot (h : SyD w0 g o cap n a m b q s e P X1 X2 R Y1 Y2 Z1 Z2) (hnc : n ≤ cap) (hcm : cap ≤ maxLen) {w1 : World} (hs : SoR w0 g o cap n (P ++ ((Y1 ++ Y2) ++ (Z1 ++ Z2)) ++ R) w1) (h1 : s < m) (h2 : m < e) (f : Value) :
    Calls Try.prog 59 #[.slice (some ⟨g, o, none⟩) n cap, .int .i64 (s : Int), .int .i64 (m : Int), .int .i64 (e : Int), f] w1 fun e w' => e = .returned (.tuple #[]) ∧ SoR w0 g o cap n (P ++ Y1 ++ Z1 ++ (Y2 ++ (Z2 ++ R))) w' := by
  have e1 := h.hP; have e2 := h.l1; have e3 := h.l2; have e4 := h.l3
  refine (sym_rot (P ++ Y1) Y2 Z1 (Z2 ++ R) (by simpa using hs) hnc hcm s m e (by simp only [List.length_append]; omega) (by simp only [List.length_append]; omega) (by simp only [List.length_append]; omega) (ne_of h.l2 h1) (ne_of h.l3 h2) f).mono ?_
  rintro e w2 ⟨rfl, p⟩
  exact ⟨rfl, by simpa using p⟩

theorem SyD.mk' {D : List Ent} {s0 r0 u : Nat} (hD : D = P ++ (X1 ++ X2) ++ R) (g1 : Ris ltE X1) (g2 : Ris ltE X2) (hP : P.length = a) (hm : a + X1.length = m) (hb : m + X2.length = b) (hu : q + m = u) (he : e + s = u) (has0 : a ≤ s) (sm : s ≤ m) (me : m ≤ e) (eb : e ≤ b)
    (hlo : s0 < s → ∀ x y, D[s - 1]? = some x → D[u - s]? = some y → ltE y x = false) (hhi : s < r0 → ∀ x y, D[s]? = some x → D[u - 1 - s]? = some y → ltE y x = true) (c1 : a < s → e < b → s0 < s) (c2 : s < m → m < e → s < r0) :
    ∃ Y1 Y2 Z1 Z2, SyD w0 g o cap n a m b q s e P X1 X2 R Y1 Y2 Z1 Z2 := by
  obtain ⟨Y1, Y2, rfl, l1⟩ : ∃ Y1 Y2, X1 = Y1 ++ Y2 ∧ Y1.length = s - a := ⟨_, _, (List.take_append_drop (s - a) X1).symm, by rw [List.length_take]; omega⟩
  obtain ⟨Z1, Z2, rfl, l2⟩ : ∃ Z1 Z2, X2 = Z1 ++ Z2 ∧ Z1.length = e - m := ⟨_, _, (List.take_append_drop (e - m) X2).symm, by rw [List.length_take]; omega⟩
  simp only [List.length_append] at hm hb
  refine ⟨Y1, Y2, Z1, Z2, ⟨rfl, rfl, hP, by omega, by omega, by omega, by omega, by omega, (ris_append.1 g1).1, (ris_append.1 g1).2.1, (ris_append.1 g2).1, (ris_append.1 g2).2.1, ?_⟩⟩
  refine sym_cut (s := s) (e := e) hD g1 g2 (by omega) (by omega) (fun z1 z2 x y hx hy => ?_) (fun z1 z2 x y hx hy => ?_)
  · exact hlo (c1 (by omega) (by omega)) x y hx (by rw [show u - s = e by omega]; exact hy)
  · exact wk_ltE.of_lt (hhi (c2 (by omega) (by omega)) x y hx (by rw [show u - 1 - s = e - 1 by omega]; exact hy))

end

set_option maxHeartbeats 4000000 in
theorem sym_twoA {w : World} {g o cap n : Nat} (P X1 X2 R : List Ent) (h : SoR w g o cap n (P ++ (X1 ++ X2) ++ R) w) (hr1 : Ris ltE X1) (hr2 : Ris ltE X2) (hx1 : 2 ≤ X1.length) (hx2 : 2 ≤ X2.length) (hn : n ≤ 3200) (hnc : n ≤ cap) (hcm : cap ≤ maxLen) (HF : SymF g o cap n (X1.length + X2.length)) (a m b q : Nat) (ha : P.length = a) (hm : a + X1.length = m) (hb : m + X2.length = b) (hq : q = (a + b) / 2) (hqm : q < m) :
    Calls Try.prog 46 #[.slice (some ⟨g, o, none⟩) n cap, .int .i64 (a : Int), .int .i64 (m : Int), .int .i64 (b : Int), .func (.func 25) #[] #[]] w fun e w' => e = .returned (.tuple #[]) ∧ SrtA w g o cap n P (X1 ++ X2) R w' := by
  have hen := Try.enList2
  have hcm0 := Lib.hid hcm
  have hbn : b ≤ n := by have := h.len; simp only [List.length_append] at this; omega
  have HR1 := Lib.hid hr1; have HR2 := Lib.hid hr2; have HHF := Lib.hid HF
  have ham : a + 2 ≤ m := by omega
  have hmb : m + 2 ≤ b := by omega
  obtain ⟨d, hdd⟩ : ∃ d, d = X1.length := ⟨_, rfl⟩
  obtain ⟨d2, hdd2⟩ : ∃ d, d = X2.length := ⟨_, rfl⟩
  have e1 : (m : Int) - (a : Int) = (d : Int) := by omega
  have e1' : ((d : Int) == 1) = false := by rw [beq_eq_false_iff_ne]; omega
  have e2 : (b : Int) - (m : Int) = (d2 : Int) := by omega
  have e2' : ((d2 : Int) == 1) = false := by rw [beq_eq_false_iff_ne]; omega
  obtain ⟨t0, ht0⟩ : ∃ t, t = a + b := ⟨_, rfl⟩
  have et0 : (a : Int) + (b : Int) = (t0 : Int) := by omega
  have eq0 : (t0 : Int) / 2 = (q : Int) := by omega
  have ht0n : t0 ≤ 6400 := by omega
  have hq1 : 2 * q ≤ a + b := by omega
  have hq2 : a + b ≤ 2 * q + 1 := by omega
  have hqn : q < n := by omega
  obtain ⟨u, hu⟩ : ∃ u, u = q + m := ⟨_, rfl⟩
  have eu : (q : Int) + (m : Int) = (u : Int) := by omega
  obtain ⟨v, hv⟩ : ∃ v, u = v + 1 := ⟨u - 1, by omega⟩
  have ev : (u : Int) - 1 = (v : Int) := by omega
  have hun : u ≤ 6400 := by omega
  have HDD := Lib.hid hdd; have HDD2 := Lib.hid hdd2
  have HA := Lib.hid ha; have HM := Lib.hid hm; have HB := Lib.hid hb
  unfold maxLen at hcm
  obtain ⟨D, hD⟩ : ∃ D, D = P ++ (X1 ++ X2) ++ R := ⟨_, rfl⟩
  have HD := Lib.hid hD
  have H2 : Hid (SoR w g o cap n D w) := Lib.hid (by rw [hD]; exact h)
  have hdm : decide (q < m) = true := by rw [decide_eq_true_eq]; exact hqm
  have hdm2 : decide ((q : Int) < (m : Int)) = true := by rw [decide_eq_true_eq]; omega
  obtain ⟨s0, hs0⟩ : ∃ s0, s0 + b = u := ⟨u - b, by omega⟩
  have es0 : (u : Int) - (b : Int) = (s0 : Int) := by omega
  have hs0a : a ≤ s0 := by omega
  have HUU := Lib.hid hu; have HVV := Lib.hid hv
  clear h hr1 hr2 ha hb hm hD hdd hdd2 ht0 hq HF hx1 hx2 hu hv
  go_enter Try.func46, Try.ntmps46
  go_wp2
  clear e1 e1' e2 e2' et0 eq0 eu ev es0 hdm hdm2
  go_loopw [20, 21, 23] (fun sv rv _ wr => SyC w g o cap n s0 q u D sv rv wr) (fun sv rv _ _ => (intOf rv).toNat - (intOf sv).toNat)
  case atStart => have hu := HUU.out; exact ⟨s0, q, rfl, rfl, Nat.le_refl _, by omega, Nat.le_refl _, fun h => absurd h (Nat.lt_irrefl _), fun h => absurd h (Nat.lt_irrefl _), H2.out⟩
  case round =>
    have hu := HUU.out; have hv := HVV.out
    obtain ⟨s, r, rfl, rfl, h0s, hsr, hrr, hlo, hhi, hS⟩ := hrel.ex
    have HS := Lib.hid hS; have HLO := Lib.hid hlo; have HHI := Lib.hid hhi
    clear hS hlo hhi hrel H2
    by_cases hlt : s < r
    · have hd : decide (s < r) = true := by rw [decide_eq_true_eq]; omega
      obtain ⟨c, hc⟩ : ∃ c, c = (s + r) / 2 := ⟨_, rfl⟩
      obtain ⟨t, ht⟩ : ∃ t, t = s + r := ⟨_, rfl⟩
      have et : (s : Int) + (r : Int) = (t : Int) := by omega
      have ec : (t : Int) / 2 = (c : Int) := by omega
      have htn : t ≤ 6400 := by omega
      have hcn : c < n := by omega
      have hci : s ≤ c := by omega
      have hcj : c < r := by omega
      clear ht hc
      obtain ⟨k, hk⟩ : ∃ k, v = k + c := ⟨v - c, by omega⟩
      have hw1 : IntKind.i64.wrap ((v : Int) - (c : Int)) = (v : Int) - (c : Int) := IntWalk.i64_in _ (by omega)
      have hw2 : (0 : Int) ≤ (v : Int) - (c : Int) := by omega
      have hw3 : (c : Int) ≤ (v : Int) := by omega
      have hw4 : (v : Int) - (c : Int) < (n : Int) := by omega
      have hw5 : ((v : Int) - (c : Int)).toNat = k := by omega
      have hkn : k < n := by omega
      have HK : Hid (v = k + c) := Lib.hid hk
      have hDl := HS.out.len
      obtain ⟨y, hly⟩ : ∃ y, D[c]? = some y := ⟨_, List.getElem?_eq_getElem (by omega)⟩
      obtain ⟨x, hlx⟩ : ∃ x, D[k]? = some x := ⟨_, List.getElem?_eq_getElem (by omega)⟩
      have hal : k < D.length := (List.getElem?_eq_some_iff.1 hlx).1
      have hcl : c < D.length := (List.getElem?_eq_some_iff.1 hly).1
      obtain ⟨cx0, cx1, _, _⟩ := HS.out.cell (i := k) hkn hal
      obtain ⟨cy0, cy1, _, _⟩ := HS.out.cell (i := c) hcn hcl
      rw [(List.getElem?_eq_some_iff.1 hlx).2] at cx0 cx1
      rw [(List.getElem?_eq_some_iff.1 hly).2] at cy0 cy1
      have HLY := Lib.hid hly; have HLX := Lib.hid hlx
      obtain ⟨z, hz⟩ : ∃ z, z = Lib.compareBytes x.1 y.1 := ⟨_, rfl⟩
      have HC : Hid (∀ w2 : World, Calls Try.prog 25 #[.agg #[.string ⟨x.1.toArray⟩, .int .i64 (x.2 : Int)], .agg #[.string ⟨y.1.toArray⟩, .int .i64 (y.2 : Int)]] w2 fun e w' => e = .returned (.int .i64 z) ∧ Keep (fun _ => False) w2 w') := Lib.hid (fun w2 => by rw [hz]; exact cmpE_any _ _ _ _)
      have HZ := Lib.hid hz
      clear hz hly hlx hal hcl hDl hk hu hv
      go_wp2
      cases hl : decide (z < 0)
      · go_region_held3 (fun w' => w'.cell? ⟨g, o + c * 2, none⟩ = some (.string ⟨y.1.toArray⟩) ∧ w'.cell? ⟨g, o + c * 2 + 1, none⟩ = some (.int .i64 (y.2 : Int)) ∧ w'.cell? ⟨g, o + k * 2, none⟩ = some (.string ⟨x.1.toArray⟩) ∧ w'.cell? ⟨g, o + k * 2 + 1, none⟩ = some (.int .i64 (x.2 : Int))) (go_keep) (first
          | (go_at_call 25; (with_reducible refine (HC.out _).mono ?_); rintro e w2 ⟨rfl, k2⟩; have K2 := Lib.hid (((Keep.refl (fun _ => False) wr).drew).trans k2 (fun _ h => h.elim) : Keep (fun _ => False) wr w2); have d1 := (k2.cell (World.block_lt_of_cell? _ _ cx0) (fun h => h) (o + c * 2)).trans cy0; have d2 := (k2.cell (World.block_lt_of_cell? _ _ cx0) (fun h => h) (o + c * 2 + 1)).trans cy1; have d3 := (k2.cell (World.block_lt_of_cell? _ _ cx0) (fun h => h) (o + k * 2)).trans cx0; have d4 := (k2.cell (World.block_lt_of_cell? _ _ cx0) (fun h => h) (o + k * 2 + 1)).trans cx1; clear k2))
        have HL0 := Lib.hid hl
        clear hl d1 d2 d3 d4 cx0 cx1 cy0 cy1
        go_wp2_with fail
        go_roundw
        case rel => exact ⟨c + 1, r, by go_num, rfl, by omega, by omega, hrr, fun _ x' y' hx' hy' => by
          rw [Nat.add_sub_cancel, HLY.out] at hx'
          rw [show u - (c + 1) = k by have := HK.out; have := HVV.out; omega, HLX.out] at hy'
          cases hx'; cases hy'
          rw [ltE, ← HZ.out]; exact HL0.out, HHI.out, HS.out.go K2.out⟩
        case measure => simp [intOf]; omega
      · go_region_held3 (fun w' => w'.cell? ⟨g, o + c * 2, none⟩ = some (.string ⟨y.1.toArray⟩) ∧ w'.cell? ⟨g, o + c * 2 + 1, none⟩ = some (.int .i64 (y.2 : Int)) ∧ w'.cell? ⟨g, o + k * 2, none⟩ = some (.string ⟨x.1.toArray⟩) ∧ w'.cell? ⟨g, o + k * 2 + 1, none⟩ = some (.int .i64 (x.2 : Int))) (go_keep) (first
          | (go_at_call 25; (with_reducible refine (HC.out _).mono ?_); rintro e w2 ⟨rfl, k2⟩; have K2 := Lib.hid (((Keep.refl (fun _ => False) wr).drew).trans k2 (fun _ h => h.elim) : Keep (fun _ => False) wr w2); have d1 := (k2.cell (World.block_lt_of_cell? _ _ cx0) (fun h => h) (o + c * 2)).trans cy0; have d2 := (k2.cell (World.block_lt_of_cell? _ _ cx0) (fun h => h) (o + c * 2 + 1)).trans cy1; have d3 := (k2.cell (World.block_lt_of_cell? _ _ cx0) (fun h => h) (o + k * 2)).trans cx0; have d4 := (k2.cell (World.block_lt_of_cell? _ _ cx0) (fun h => h) (o + k * 2 + 1)).trans cx1; clear k2))
        have HL0 := Lib.hid hl
        clear hl d1 d2 d3 d4 cx0 cx1 cy0 cy1
        go_wp2_with fail
        go_roundw
        case rel => exact ⟨s, c, rfl, rfl, h0s, hci, by omega, HLO.out, fun _ x' y' hx' hy' => by
          rw [HLY.out] at hx'
          rw [show u - 1 - c = k by have := HK.out; have := HVV.out; omega, HLX.out] at hy'
          cases hx'; cases hy'
          rw [ltE, ← HZ.out]; exact HL0.out, HS.out.go K2.out⟩
        case measure => simp [intOf]; omega
    · have hd : decide (s < r) = false := by rw [decide_eq_false_iff_not]; omega
      obtain rfl : s = r := by omega
      obtain ⟨e, hee⟩ : ∃ e, e + s = u := ⟨u - s, by omega⟩
      obtain ⟨Y1, Y2, Z1, Z2, hY⟩ : ∃ Y1 Y2 Z1 Z2, SyD w g o cap n a m b q s e P X1 X2 R Y1 Y2 Z1 Z2 := SyD.mk' HD.out HR1.out HR2.out HA.out HM.out HB.out hu.symm hee (by omega) (by omega) (by omega) (by omega) HLO.out HHI.out (by omega) (by omega)
      have ee : (u : Int) - (s : Int) = (e : Int) := by omega
      have HY := Lib.hid hY
      have has : a ≤ s := by omega
      have hen2 : e ≤ n := by omega
      have hs1 : Hid (SoR w g o cap n (P ++ ((Y1 ++ Y2) ++ (Z1 ++ Z2)) ++ R) wr) := Lib.hid (by rw [← hY.x1, ← hY.x2, ← HD.out]; exact HS.out)
      have HEE : Hid (e + s = u) := Lib.hid hee
      have HU : Hid (u = q + m) := Lib.hid hu
      clear hY HS HLO HHI
      have hsm : s < m := by omega
      clear hee hu hv
      by_cases hsq : s < q
      · by_cases hsa : a < s
        · by_cases heb : e < b
          · have p1 := HEE.out; have p2 := HU.out
            have i0 : decide (s < m) = true := by rw [decide_eq_true_eq]; omega
            have j0 : decide ((s : Int) < (m : Int)) = true := by rw [decide_eq_true_eq]; omega
            have i1 : decide (m < e) = true := by rw [decide_eq_true_eq]; omega
            have j1 : decide ((m : Int) < (e : Int)) = true := by rw [decide_eq_true_eq]; omega
            have i2 : decide (a < s) = true := by rw [decide_eq_true_eq]; omega
            have j2 : decide ((a : Int) < (s : Int)) = true := by rw [decide_eq_true_eq]; omega
            have i3 : decide (s < q) = true := by rw [decide_eq_true_eq]; omega
            have j3 : decide ((s : Int) < (q : Int)) = true := by rw [decide_eq_true_eq]; omega
            have i4 : decide (q < e) = true := by rw [decide_eq_true_eq]; omega
            have j4 : decide ((q : Int) < (e : Int)) = true := by rw [decide_eq_true_eq]; omega
            have i5 : decide (e < b) = true := by rw [decide_eq_true_eq]; omega
            have j5 : decide ((e : Int) < (b : Int)) = true := by rw [decide_eq_true_eq]; omega
            have HROT : Hid (∀ f : Value, _) := Lib.hid (HY.out.rot hnc hcm0.out hs1.out (by omega) (by omega))
            have HREC1 : Hid (∀ w1 : World, SoR w g o cap n (P ++ Y1 ++ Z1 ++ (Y2 ++ (Z2 ++ R))) w1 → _) := Lib.hid (fun w1 t1 => HY.out.rec1 HHF.out t1 (by omega) (by omega) (by have := HY.out.l2; have := HY.out.l4; omega))
            have HREC2 : Hid (∀ (w1 : World) (W1 : List Ent) (_ : W1.Perm (Y1 ++ Z1)) (_ : SoR w g o cap n (P ++ W1 ++ (Y2 ++ (Z2 ++ R))) w1), _) := Lib.hid (fun w1 W1 p1 t1 => HY.out.rec2 HHF.out p1 t1 (by omega) (by omega) (by have := HY.out.l1; have := HY.out.l3; omega))
            clear p1 p2
            go_wp2_with (first | (go_at_call 59; (with_reducible refine (HROT.out _).mono ?_); rintro _ w1 ⟨rfl, t1⟩; have T1 := Lib.hid t1; clear t1) | (go_at_call 46; (with_reducible refine (HREC1.out _ T1.out).mono ?_); rintro _ w2 ⟨rfl, t2⟩; obtain ⟨W1, b1, b2, b3⟩ := t2.ex; have B1 := Lib.hid b1; have B2 := Lib.hid b2; have T2 := Lib.hid b3; clear b1 b2 b3 t2) | (go_at_call 46; (with_reducible refine (HREC2.out _ W1 B1.out T2.out).mono ?_); rintro _ w3 ⟨rfl, t3⟩; obtain ⟨W2, f1, f2, f3⟩ := t3.ex; have F1 := Lib.hid f1; have F2 := Lib.hid f2; have T3 := Lib.hid f3; clear f1 f2 f3 t3))
            go_end0
            exact ⟨rfl, HY.out.fin B1.out B2.out F1.out F2.out (by have := T3.out; simpa using this)⟩
          · have p1 := HEE.out; have p2 := HU.out
            have heb : e = b := by omega
            have i0 : decide (s < m) = true := by rw [decide_eq_true_eq]; omega
            have j0 : decide ((s : Int) < (m : Int)) = true := by rw [decide_eq_true_eq]; omega
            have i1 : decide (m < e) = true := by rw [decide_eq_true_eq]; omega
            have j1 : decide ((m : Int) < (e : Int)) = true := by rw [decide_eq_true_eq]; omega
            have i2 : decide (a < s) = true := by rw [decide_eq_true_eq]; omega
            have j2 : decide ((a : Int) < (s : Int)) = true := by rw [decide_eq_true_eq]; omega
            have i3 : decide (s < q) = true := by rw [decide_eq_true_eq]; omega
            have j3 : decide ((s : Int) < (q : Int)) = true := by rw [decide_eq_true_eq]; omega
            have i4 : decide (q < e) = true := by rw [decide_eq_true_eq]; omega
            have j4 : decide ((q : Int) < (e : Int)) = true := by rw [decide_eq_true_eq]; omega
            have i5 : decide (e < b) = false := by rw [decide_eq_false_iff_not]; omega
            have j5 : decide ((e : Int) < (b : Int)) = false := by rw [decide_eq_false_iff_not]; omega
            have HROT : Hid (∀ f : Value, _) := Lib.hid (HY.out.rot hnc hcm0.out hs1.out (by omega) (by omega))
            have nZ2 : Z2 = [] := nil_of HY.out.l4 (by omega)
            have HREC1 : Hid (∀ w1 : World, SoR w g o cap n (P ++ Y1 ++ Z1 ++ (Y2 ++ (Z2 ++ R))) w1 → _) := Lib.hid (fun w1 t1 => HY.out.rec1 HHF.out t1 (by omega) (by omega) (by have := HY.out.l2; have := HY.out.l4; omega))
            clear p1 p2 heb
            go_wp2_with (first | (go_at_call 59; (with_reducible refine (HROT.out _).mono ?_); rintro _ w1 ⟨rfl, t1⟩; have T1 := Lib.hid t1; clear t1) | (go_at_call 46; (with_reducible refine (HREC1.out _ T1.out).mono ?_); rintro _ w2 ⟨rfl, t2⟩; obtain ⟨W1, b1, b2, b3⟩ := t2.ex; have B1 := Lib.hid b1; have B2 := Lib.hid b2; have T2 := Lib.hid b3; clear b1 b2 b3 t2))
            go_end0
            exact ⟨rfl, HY.out.fin (W2 := Y2) B1.out B2.out (by rw [nZ2]; simp) HY.out.r2 (by have := T2.out; simpa [nZ2] using this)⟩
        · by_cases heb : e < b
          · have p1 := HEE.out; have p2 := HU.out
            have hsa : a = s := by omega
            have i0 : decide (s < m) = true := by rw [decide_eq_true_eq]; omega
            have j0 : decide ((s : Int) < (m : Int)) = true := by rw [decide_eq_true_eq]; omega
            have i1 : decide (m < e) = true := by rw [decide_eq_true_eq]; omega
            have j1 : decide ((m : Int) < (e : Int)) = true := by rw [decide_eq_true_eq]; omega
            have i2 : decide (a < s) = false := by rw [decide_eq_false_iff_not]; omega
            have j2 : decide ((a : Int) < (s : Int)) = false := by rw [decide_eq_false_iff_not]; omega
            have i3 : decide (s < q) = true := by rw [decide_eq_true_eq]; omega
            have j3 : decide ((s : Int) < (q : Int)) = true := by rw [decide_eq_true_eq]; omega
            have i4 : decide (q < e) = true := by rw [decide_eq_true_eq]; omega
            have j4 : decide ((q : Int) < (e : Int)) = true := by rw [decide_eq_true_eq]; omega
            have i5 : decide (e < b) = true := by rw [decide_eq_true_eq]; omega
            have j5 : decide ((e : Int) < (b : Int)) = true := by rw [decide_eq_true_eq]; omega
            have HROT : Hid (∀ f : Value, _) := Lib.hid (HY.out.rot hnc hcm0.out hs1.out (by omega) (by omega))
            have nY1 : Y1 = [] := nil_of HY.out.l1 (by omega)
            have HREC2 : Hid (∀ (w1 : World) (W1 : List Ent) (_ : W1.Perm (Y1 ++ Z1)) (_ : SoR w g o cap n (P ++ W1 ++ (Y2 ++ (Z2 ++ R))) w1), _) := Lib.hid (fun w1 W1 p1 t1 => HY.out.rec2 HHF.out p1 t1 (by omega) (by omega) (by have := HY.out.l1; have := HY.out.l3; omega))
            clear p1 p2 hsa
            go_wp2_with (first | (go_at_call 59; (with_reducible refine (HROT.out _).mono ?_); rintro _ w1 ⟨rfl, t1⟩; have T1 := Lib.hid t1; clear t1; obtain ⟨W1, b1, b2, b3⟩ : ∃ W1, W1.Perm (Y1 ++ Z1) ∧ Ris ltE W1 ∧ SoR w g o cap n (P ++ W1 ++ (Y2 ++ (Z2 ++ R))) w1 := ⟨Z1, by rw [nY1]; simp, HY.out.r3, by have := T1.out; simpa [nY1] using this⟩; have B1 := Lib.hid b1; have B2 := Lib.hid b2; have T2 := Lib.hid b3; clear b1 b2 b3) | (go_at_call 46; (with_reducible refine (HREC2.out _ W1 B1.out T2.out).mono ?_); rintro _ w3 ⟨rfl, t3⟩; obtain ⟨W2, f1, f2, f3⟩ := t3.ex; have F1 := Lib.hid f1; have F2 := Lib.hid f2; have T3 := Lib.hid f3; clear f1 f2 f3 t3))
            go_end0
            exact ⟨rfl, HY.out.fin B1.out B2.out F1.out F2.out (by have := T3.out; simpa using this)⟩
          · have p1 := HEE.out; have p2 := HU.out
            have hsa : a = s := by omega
            have heb : e = b := by omega
            have i0 : decide (s < m) = true := by rw [decide_eq_true_eq]; omega
            have j0 : decide ((s : Int) < (m : Int)) = true := by rw [decide_eq_true_eq]; omega
            have i1 : decide (m < e) = true := by rw [decide_eq_true_eq]; omega
            have j1 : decide ((m : Int) < (e : Int)) = true := by rw [decide_eq_true_eq]; omega
            have i2 : decide (a < s) = false := by rw [decide_eq_false_iff_not]; omega
            have j2 : decide ((a : Int) < (s : Int)) = false := by rw [decide_eq_false_iff_not]; omega
            have i3 : decide (s < q) = true := by rw [decide_eq_true_eq]; omega
            have j3 : decide ((s : Int) < (q : Int)) = true := by rw [decide_eq_true_eq]; omega
            have i4 : decide (q < e) = true := by rw [decide_eq_true_eq]; omega
            have j4 : decide ((q : Int) < (e : Int)) = true := by rw [decide_eq_true_eq]; omega
            have i5 : decide (e < b) = false := by rw [decide_eq_false_iff_not]; omega
            have j5 : decide ((e : Int) < (b : Int)) = false := by rw [decide_eq_false_iff_not]; omega
            have HROT : Hid (∀ f : Value, _) := Lib.hid (HY.out.rot hnc hcm0.out hs1.out (by omega) (by omega))
            have nY1 : Y1 = [] := nil_of HY.out.l1 (by omega)
            have nZ2 : Z2 = [] := nil_of HY.out.l4 (by omega)
            clear p1 p2 hsa heb
            go_wp2_with (first | (go_at_call 59; (with_reducible refine (HROT.out _).mono ?_); rintro _ w1 ⟨rfl, t1⟩; have T1 := Lib.hid t1; clear t1; obtain ⟨W1, b1, b2, b3⟩ : ∃ W1, W1.Perm (Y1 ++ Z1) ∧ Ris ltE W1 ∧ SoR w g o cap n (P ++ W1 ++ (Y2 ++ (Z2 ++ R))) w1 := ⟨Z1, by rw [nY1]; simp, HY.out.r3, by have := T1.out; simpa [nY1, nZ2] using this⟩; have B1 := Lib.hid b1; have B2 := Lib.hid b2; have T2 := Lib.hid b3; clear b1 b2 b3))
            go_end0
            exact ⟨rfl, HY.out.fin (W2 := Y2) B1.out B2.out (by rw [nZ2]; simp) HY.out.r2 (by have := T2.out; simpa [nY1, nZ2] using this)⟩
      · by_cases hsa : a < s
        · have p1 := HEE.out; have p2 := HU.out
          have hsq : s = q := by omega
          have i0 : decide (s < m) = true := by rw [decide_eq_true_eq]; omega
          have j0 : decide ((s : Int) < (m : Int)) = true := by rw [decide_eq_true_eq]; omega
          have i1 : decide (m < e) = false := by rw [decide_eq_false_iff_not]; omega
          have j1 : decide ((m : Int) < (e : Int)) = false := by rw [decide_eq_false_iff_not]; omega
          have i2 : decide (a < s) = true := by rw [decide_eq_true_eq]; omega
          have j2 : decide ((a : Int) < (s : Int)) = true := by rw [decide_eq_true_eq]; omega
          have i3 : decide (s < q) = false := by rw [decide_eq_false_iff_not]; omega
          have j3 : decide ((s : Int) < (q : Int)) = false := by rw [decide_eq_false_iff_not]; omega
          have i4 : decide (q < e) = true := by rw [decide_eq_true_eq]; omega
          have j4 : decide ((q : Int) < (e : Int)) = true := by rw [decide_eq_true_eq]; omega
          have i5 : decide (e < b) = true := by rw [decide_eq_true_eq]; omega
          have j5 : decide ((e : Int) < (b : Int)) = true := by rw [decide_eq_true_eq]; omega
          have nZ1 : Z1 = [] := nil_of HY.out.l3 (by omega)
          have T1 : Hid (SoR w g o cap n (P ++ Y1 ++ Z1 ++ (Y2 ++ (Z2 ++ R))) wr) := Lib.hid (by have := hs1.out; simpa [nZ1] using this)
          have HREC2 : Hid (∀ (w1 : World) (W1 : List Ent) (_ : W1.Perm (Y1 ++ Z1)) (_ : SoR w g o cap n (P ++ W1 ++ (Y2 ++ (Z2 ++ R))) w1), _) := Lib.hid (fun w1 W1 p1 t1 => HY.out.rec2 HHF.out p1 t1 (by omega) (by omega) (by have := HY.out.l1; have := HY.out.l3; omega))
          obtain ⟨W1, b1, b2, b3⟩ : ∃ W1, W1.Perm (Y1 ++ Z1) ∧ Ris ltE W1 ∧ SoR w g o cap n (P ++ W1 ++ (Y2 ++ (Z2 ++ R))) wr := ⟨Y1, by rw [nZ1]; simp, HY.out.r1, by have := T1.out; simpa [nZ1] using this⟩; have B1 := Lib.hid b1; have B2 := Lib.hid b2; have T2 := Lib.hid b3; clear b1 b2 b3
          clear p1 p2 hsq
          go_wp2_with (first | (go_at_call 46; (with_reducible refine (HREC2.out _ W1 B1.out T2.out).mono ?_); rintro _ w3 ⟨rfl, t3⟩; obtain ⟨W2, f1, f2, f3⟩ := t3.ex; have F1 := Lib.hid f1; have F2 := Lib.hid f2; have T3 := Lib.hid f3; clear f1 f2 f3 t3))
          go_end0
          exact ⟨rfl, HY.out.fin B1.out B2.out F1.out F2.out (by have := T3.out; simpa using this)⟩
        · exfalso
          have p1 := HEE.out; have p2 := HU.out
          omega

set_option maxHeartbeats 4000000 in
theorem sym_twoB {w : World} {g o cap n : Nat} (P X1 X2 R : List Ent) (h : SoR w g o cap n (P ++ (X1 ++ X2) ++ R) w) (hr1 : Ris ltE X1) (hr2 : Ris ltE X2) (hx1 : 2 ≤ X1.length) (hx2 : 2 ≤ X2.length) (hn : n ≤ 3200) (hnc : n ≤ cap) (hcm : cap ≤ maxLen) (HF : SymF g o cap n (X1.length + X2.length)) (a m b q : Nat) (ha : P.length = a) (hm : a + X1.length = m) (hb : m + X2.length = b) (hq : q = (a + b) / 2) (hqm : m ≤ q) :
    Calls Try.prog 46 #[.slice (some ⟨g, o, none⟩) n cap, .int .i64 (a : Int), .int .i64 (m : Int), .int .i64 (b : Int), .func (.func 25) #[] #[]] w fun e w' => e = .returned (.tuple #[]) ∧ SrtA w g o cap n P (X1 ++ X2) R w' := by
  have hen := Try.enList2
  have hcm0 := Lib.hid hcm
  have hbn : b ≤ n := by have := h.len; simp only [List.length_append] at this; omega
  have HR1 := Lib.hid hr1; have HR2 := Lib.hid hr2; have HHF := Lib.hid HF
  have ham : a + 2 ≤ m := by omega
  have hmb : m + 2 ≤ b := by omega
  obtain ⟨d, hdd⟩ : ∃ d, d = X1.length := ⟨_, rfl⟩
  obtain ⟨d2, hdd2⟩ : ∃ d, d = X2.length := ⟨_, rfl⟩
  have e1 : (m : Int) - (a : Int) = (d : Int) := by omega
  have e1' : ((d : Int) == 1) = false := by rw [beq_eq_false_iff_ne]; omega
  have e2 : (b : Int) - (m : Int) = (d2 : Int) := by omega
  have e2' : ((d2 : Int) == 1) = false := by rw [beq_eq_false_iff_ne]; omega
  obtain ⟨t0, ht0⟩ : ∃ t, t = a + b := ⟨_, rfl⟩
  have et0 : (a : Int) + (b : Int) = (t0 : Int) := by omega
  have eq0 : (t0 : Int) / 2 = (q : Int) := by omega
  have ht0n : t0 ≤ 6400 := by omega
  have hq1 : 2 * q ≤ a + b := by omega
  have hq2 : a + b ≤ 2 * q + 1 := by omega
  have hqn : q < n := by omega
  obtain ⟨u, hu⟩ : ∃ u, u = q + m := ⟨_, rfl⟩
  have eu : (q : Int) + (m : Int) = (u : Int) := by omega
  obtain ⟨v, hv⟩ : ∃ v, u = v + 1 := ⟨u - 1, by omega⟩
  have ev : (u : Int) - 1 = (v : Int) := by omega
  have hun : u ≤ 6400 := by omega
  have HDD := Lib.hid hdd; have HDD2 := Lib.hid hdd2
  have HA := Lib.hid ha; have HM := Lib.hid hm; have HB := Lib.hid hb
  unfold maxLen at hcm
  obtain ⟨D, hD⟩ : ∃ D, D = P ++ (X1 ++ X2) ++ R := ⟨_, rfl⟩
  have HD := Lib.hid hD
  have H2 : Hid (SoR w g o cap n D w) := Lib.hid (by rw [hD]; exact h)
  have hdm : decide (q < m) = false := by rw [decide_eq_false_iff_not]; omega
  have hdm2 : decide ((q : Int) < (m : Int)) = false := by rw [decide_eq_false_iff_not]; omega
  have HUU := Lib.hid hu; have HVV := Lib.hid hv
  clear h hr1 hr2 ha hb hm hD hdd hdd2 ht0 hq HF hx1 hx2 hu hv
  go_enter Try.func46, Try.ntmps46
  go_wp2
  clear e1 e1' e2 e2' et0 eq0 eu ev hdm hdm2
  go_loopw [20, 21, 23] (fun sv rv _ wr => SyC w g o cap n a m u D sv rv wr) (fun sv rv _ _ => (intOf rv).toNat - (intOf sv).toNat)
  case atStart => have hu := HUU.out; exact ⟨a, m, rfl, rfl, Nat.le_refl _, by omega, Nat.le_refl _, fun h => absurd h (Nat.lt_irrefl _), fun h => absurd h (Nat.lt_irrefl _), H2.out⟩
  case round =>
    have hu := HUU.out; have hv := HVV.out
    obtain ⟨s, r, rfl, rfl, h0s, hsr, hrr, hlo, hhi, hS⟩ := hrel.ex
    have HS := Lib.hid hS; have HLO := Lib.hid hlo; have HHI := Lib.hid hhi
    clear hS hlo hhi hrel H2
    by_cases hlt : s < r
    · have hd : decide (s < r) = true := by rw [decide_eq_true_eq]; omega
      obtain ⟨c, hc⟩ : ∃ c, c = (s + r) / 2 := ⟨_, rfl⟩
      obtain ⟨t, ht⟩ : ∃ t, t = s + r := ⟨_, rfl⟩
      have et : (s : Int) + (r : Int) = (t : Int) := by omega
      have ec : (t : Int) / 2 = (c : Int) := by omega
      have htn : t ≤ 6400 := by omega
      have hcn : c < n := by omega
      have hci : s ≤ c := by omega
      have hcj : c < r := by omega
      clear ht hc
      obtain ⟨k, hk⟩ : ∃ k, v = k + c := ⟨v - c, by omega⟩
      have hw1 : IntKind.i64.wrap ((v : Int) - (c : Int)) = (v : Int) - (c : Int) := IntWalk.i64_in _ (by omega)
      have hw2 : (0 : Int) ≤ (v : Int) - (c : Int) := by omega
      have hw3 : (c : Int) ≤ (v : Int) := by omega
      have hw4 : (v : Int) - (c : Int) < (n : Int) := by omega
      have hw5 : ((v : Int) - (c : Int)).toNat = k := by omega
      have hkn : k < n := by omega
      have HK : Hid (v = k + c) := Lib.hid hk
      have hDl := HS.out.len
      obtain ⟨y, hly⟩ : ∃ y, D[c]? = some y := ⟨_, List.getElem?_eq_getElem (by omega)⟩
      obtain ⟨x, hlx⟩ : ∃ x, D[k]? = some x := ⟨_, List.getElem?_eq_getElem (by omega)⟩
      have hal : k < D.length := (List.getElem?_eq_some_iff.1 hlx).1
      have hcl : c < D.length := (List.getElem?_eq_some_iff.1 hly).1
      obtain ⟨cx0, cx1, _, _⟩ := HS.out.cell (i := k) hkn hal
      obtain ⟨cy0, cy1, _, _⟩ := HS.out.cell (i := c) hcn hcl
      rw [(List.getElem?_eq_some_iff.1 hlx).2] at cx0 cx1
      rw [(List.getElem?_eq_some_iff.1 hly).2] at cy0 cy1
      have HLY := Lib.hid hly; have HLX := Lib.hid hlx
      obtain ⟨z, hz⟩ : ∃ z, z = Lib.compareBytes x.1 y.1 := ⟨_, rfl⟩
      have HC : Hid (∀ w2 : World, Calls Try.prog 25 #[.agg #[.string ⟨x.1.toArray⟩, .int .i64 (x.2 : Int)], .agg #[.string ⟨y.1.toArray⟩, .int .i64 (y.2 : Int)]] w2 fun e w' => e = .returned (.int .i64 z) ∧ Keep (fun _ => False) w2 w') := Lib.hid (fun w2 => by rw [hz]; exact cmpE_any _ _ _ _)
      have HZ := Lib.hid hz
      clear hz hly hlx hal hcl hDl hk hu hv
      go_wp2
      cases hl : decide (z < 0)
      · go_region_held3 (fun w' => w'.cell? ⟨g, o + c * 2, none⟩ = some (.string ⟨y.1.toArray⟩) ∧ w'.cell? ⟨g, o + c * 2 + 1, none⟩ = some (.int .i64 (y.2 : Int)) ∧ w'.cell? ⟨g, o + k * 2, none⟩ = some (.string ⟨x.1.toArray⟩) ∧ w'.cell? ⟨g, o + k * 2 + 1, none⟩ = some (.int .i64 (x.2 : Int))) (go_keep) (first
          | (go_at_call 25; (with_reducible refine (HC.out _).mono ?_); rintro e w2 ⟨rfl, k2⟩; have K2 := Lib.hid (((Keep.refl (fun _ => False) wr).drew).trans k2 (fun _ h => h.elim) : Keep (fun _ => False) wr w2); have d1 := (k2.cell (World.block_lt_of_cell? _ _ cx0) (fun h => h) (o + c * 2)).trans cy0; have d2 := (k2.cell (World.block_lt_of_cell? _ _ cx0) (fun h => h) (o + c * 2 + 1)).trans cy1; have d3 := (k2.cell (World.block_lt_of_cell? _ _ cx0) (fun h => h) (o + k * 2)).trans cx0; have d4 := (k2.cell (World.block_lt_of_cell? _ _ cx0) (fun h => h) (o + k * 2 + 1)).trans cx1; clear k2))
        have HL0 := Lib.hid hl
        clear hl d1 d2 d3 d4 cx0 cx1 cy0 cy1
        go_wp2_with fail
        go_roundw
        case rel => exact ⟨c + 1, r, by go_num, rfl, by omega, by omega, hrr, fun _ x' y' hx' hy' => by
          rw [Nat.add_sub_cancel, HLY.out] at hx'
          rw [show u - (c + 1) = k by have := HK.out; have := HVV.out; omega, HLX.out] at hy'
          cases hx'; cases hy'
          rw [ltE, ← HZ.out]; exact HL0.out, HHI.out, HS.out.go K2.out⟩
        case measure => simp [intOf]; omega
      · go_region_held3 (fun w' => w'.cell? ⟨g, o + c * 2, none⟩ = some (.string ⟨y.1.toArray⟩) ∧ w'.cell? ⟨g, o + c * 2 + 1, none⟩ = some (.int .i64 (y.2 : Int)) ∧ w'.cell? ⟨g, o + k * 2, none⟩ = some (.string ⟨x.1.toArray⟩) ∧ w'.cell? ⟨g, o + k * 2 + 1, none⟩ = some (.int .i64 (x.2 : Int))) (go_keep) (first
          | (go_at_call 25; (with_reducible refine (HC.out _).mono ?_); rintro e w2 ⟨rfl, k2⟩; have K2 := Lib.hid (((Keep.refl (fun _ => False) wr).drew).trans k2 (fun _ h => h.elim) : Keep (fun _ => False) wr w2); have d1 := (k2.cell (World.block_lt_of_cell? _ _ cx0) (fun h => h) (o + c * 2)).trans cy0; have d2 := (k2.cell (World.block_lt_of_cell? _ _ cx0) (fun h => h) (o + c * 2 + 1)).trans cy1; have d3 := (k2.cell (World.block_lt_of_cell? _ _ cx0) (fun h => h) (o + k * 2)).trans cx0; have d4 := (k2.cell (World.block_lt_of_cell? _ _ cx0) (fun h => h) (o + k * 2 + 1)).trans cx1; clear k2))
        have HL0 := Lib.hid hl
        clear hl d1 d2 d3 d4 cx0 cx1 cy0 cy1
        go_wp2_with fail
        go_roundw
        case rel => exact ⟨s, c, rfl, rfl, h0s, hci, by omega, HLO.out, fun _ x' y' hx' hy' => by
          rw [HLY.out] at hx'
          rw [show u - 1 - c = k by have := HK.out; have := HVV.out; omega, HLX.out] at hy'
          cases hx'; cases hy'
          rw [ltE, ← HZ.out]; exact HL0.out, HS.out.go K2.out⟩
        case measure => simp [intOf]; omega
    · have hd : decide (s < r) = false := by rw [decide_eq_false_iff_not]; omega
      obtain rfl : s = r := by omega
      obtain ⟨e, hee⟩ : ∃ e, e + s = u := ⟨u - s, by omega⟩
      obtain ⟨Y1, Y2, Z1, Z2, hY⟩ : ∃ Y1 Y2 Z1 Z2, SyD w g o cap n a m b q s e P X1 X2 R Y1 Y2 Z1 Z2 := SyD.mk' HD.out HR1.out HR2.out HA.out HM.out HB.out hu.symm hee (by omega) (by omega) (by omega) (by omega) HLO.out HHI.out (by omega) (by omega)
      have ee : (u : Int) - (s : Int) = (e : Int) := by omega
      have HY := Lib.hid hY
      have has : a ≤ s := by omega
      have hen2 : e ≤ n := by omega
      have hs1 : Hid (SoR w g o cap n (P ++ ((Y1 ++ Y2) ++ (Z1 ++ Z2)) ++ R) wr) := Lib.hid (by rw [← hY.x1, ← hY.x2, ← HD.out]; exact HS.out)
      have HEE : Hid (e + s = u) := Lib.hid hee
      have HU : Hid (u = q + m) := Lib.hid hu
      clear hY HS HLO HHI
      clear hee hu hv
      by_cases hsm : s < m
      · have hsq : s < q := by omega
        by_cases hsa : a < s
        · by_cases heb : e < b
          · have p1 := HEE.out; have p2 := HU.out
            have i0 : decide (s < m) = true := by rw [decide_eq_true_eq]; omega
            have j0 : decide ((s : Int) < (m : Int)) = true := by rw [decide_eq_true_eq]; omega
            have i1 : decide (m < e) = true := by rw [decide_eq_true_eq]; omega
            have j1 : decide ((m : Int) < (e : Int)) = true := by rw [decide_eq_true_eq]; omega
            have i2 : decide (a < s) = true := by rw [decide_eq_true_eq]; omega
            have j2 : decide ((a : Int) < (s : Int)) = true := by rw [decide_eq_true_eq]; omega
            have i3 : decide (s < q) = true := by rw [decide_eq_true_eq]; omega
            have j3 : decide ((s : Int) < (q : Int)) = true := by rw [decide_eq_true_eq]; omega
            have i4 : decide (q < e) = true := by rw [decide_eq_true_eq]; omega
            have j4 : decide ((q : Int) < (e : Int)) = true := by rw [decide_eq_true_eq]; omega
            have i5 : decide (e < b) = true := by rw [decide_eq_true_eq]; omega
            have j5 : decide ((e : Int) < (b : Int)) = true := by rw [decide_eq_true_eq]; omega
            have HROT : Hid (∀ f : Value, _) := Lib.hid (HY.out.rot hnc hcm0.out hs1.out (by omega) (by omega))
            have HREC1 : Hid (∀ w1 : World, SoR w g o cap n (P ++ Y1 ++ Z1 ++ (Y2 ++ (Z2 ++ R))) w1 → _) := Lib.hid (fun w1 t1 => HY.out.rec1 HHF.out t1 (by omega) (by omega) (by have := HY.out.l2; have := HY.out.l4; omega))
            have HREC2 : Hid (∀ (w1 : World) (W1 : List Ent) (_ : W1.Perm (Y1 ++ Z1)) (_ : SoR w g o cap n (P ++ W1 ++ (Y2 ++ (Z2 ++ R))) w1), _) := Lib.hid (fun w1 W1 p1 t1 => HY.out.rec2 HHF.out p1 t1 (by omega) (by omega) (by have := HY.out.l1; have := HY.out.l3; omega))
            clear p1 p2
            go_wp2_with (first | (go_at_call 59; (with_reducible refine (HROT.out _).mono ?_); rintro _ w1 ⟨rfl, t1⟩; have T1 := Lib.hid t1; clear t1) | (go_at_call 46; (with_reducible refine (HREC1.out _ T1.out).mono ?_); rintro _ w2 ⟨rfl, t2⟩; obtain ⟨W1, b1, b2, b3⟩ := t2.ex; have B1 := Lib.hid b1; have B2 := Lib.hid b2; have T2 := Lib.hid b3; clear b1 b2 b3 t2) | (go_at_call 46; (with_reducible refine (HREC2.out _ W1 B1.out T2.out).mono ?_); rintro _ w3 ⟨rfl, t3⟩; obtain ⟨W2, f1, f2, f3⟩ := t3.ex; have F1 := Lib.hid f1; have F2 := Lib.hid f2; have T3 := Lib.hid f3; clear f1 f2 f3 t3))
            go_end0
            exact ⟨rfl, HY.out.fin B1.out B2.out F1.out F2.out (by have := T3.out; simpa using this)⟩
          · have p1 := HEE.out; have p2 := HU.out
            have heb : e = b := by omega
            have i0 : decide (s < m) = true := by rw [decide_eq_true_eq]; omega
            have j0 : decide ((s : Int) < (m : Int)) = true := by rw [decide_eq_true_eq]; omega
            have i1 : decide (m < e) = true := by rw [decide_eq_true_eq]; omega
            have j1 : decide ((m : Int) < (e : Int)) = true := by rw [decide_eq_true_eq]; omega
            have i2 : decide (a < s) = true := by rw [decide_eq_true_eq]; omega
            have j2 : decide ((a : Int) < (s : Int)) = true := by rw [decide_eq_true_eq]; omega
            have i3 : decide (s < q) = true := by rw [decide_eq_true_eq]; omega
            have j3 : decide ((s : Int) < (q : Int)) = true := by rw [decide_eq_true_eq]; omega
            have i4 : decide (q < e) = true := by rw [decide_eq_true_eq]; omega
            have j4 : decide ((q : Int) < (e : Int)) = true := by rw [decide_eq_true_eq]; omega
            have i5 : decide (e < b) = false := by rw [decide_eq_false_iff_not]; omega
            have j5 : decide ((e : Int) < (b : Int)) = false := by rw [decide_eq_false_iff_not]; omega
            have HROT : Hid (∀ f : Value, _) := Lib.hid (HY.out.rot hnc hcm0.out hs1.out (by omega) (by omega))
            have nZ2 : Z2 = [] := nil_of HY.out.l4 (by omega)
            have HREC1 : Hid (∀ w1 : World, SoR w g o cap n (P ++ Y1 ++ Z1 ++ (Y2 ++ (Z2 ++ R))) w1 → _) := Lib.hid (fun w1 t1 => HY.out.rec1 HHF.out t1 (by omega) (by omega) (by have := HY.out.l2; have := HY.out.l4; omega))
            clear p1 p2 heb
            go_wp2_with (first | (go_at_call 59; (with_reducible refine (HROT.out _).mono ?_); rintro _ w1 ⟨rfl, t1⟩; have T1 := Lib.hid t1; clear t1) | (go_at_call 46; (with_reducible refine (HREC1.out _ T1.out).mono ?_); rintro _ w2 ⟨rfl, t2⟩; obtain ⟨W1, b1, b2, b3⟩ := t2.ex; have B1 := Lib.hid b1; have B2 := Lib.hid b2; have T2 := Lib.hid b3; clear b1 b2 b3 t2))
            go_end0
            exact ⟨rfl, HY.out.fin (W2 := Y2) B1.out B2.out (by rw [nZ2]; simp) HY.out.r2 (by have := T2.out; simpa [nZ2] using this)⟩
        · by_cases heb : e < b
          · have p1 := HEE.out; have p2 := HU.out
            have hsa : a = s := by omega
            have i0 : decide (s < m) = true := by rw [decide_eq_true_eq]; omega
            have j0 : decide ((s : Int) < (m : Int)) = true := by rw [decide_eq_true_eq]; omega
            have i1 : decide (m < e) = true := by rw [decide_eq_true_eq]; omega
            have j1 : decide ((m : Int) < (e : Int)) = true := by rw [decide_eq_true_eq]; omega
            have i2 : decide (a < s) = false := by rw [decide_eq_false_iff_not]; omega
            have j2 : decide ((a : Int) < (s : Int)) = false := by rw [decide_eq_false_iff_not]; omega
            have i3 : decide (s < q) = true := by rw [decide_eq_true_eq]; omega
            have j3 : decide ((s : Int) < (q : Int)) = true := by rw [decide_eq_true_eq]; omega
            have i4 : decide (q < e) = true := by rw [decide_eq_true_eq]; omega
            have j4 : decide ((q : Int) < (e : Int)) = true := by rw [decide_eq_true_eq]; omega
            have i5 : decide (e < b) = true := by rw [decide_eq_true_eq]; omega
            have j5 : decide ((e : Int) < (b : Int)) = true := by rw [decide_eq_true_eq]; omega
            have HROT : Hid (∀ f : Value, _) := Lib.hid (HY.out.rot hnc hcm0.out hs1.out (by omega) (by omega))
            have nY1 : Y1 = [] := nil_of HY.out.l1 (by omega)
            have HREC2 : Hid (∀ (w1 : World) (W1 : List Ent) (_ : W1.Perm (Y1 ++ Z1)) (_ : SoR w g o cap n (P ++ W1 ++ (Y2 ++ (Z2 ++ R))) w1), _) := Lib.hid (fun w1 W1 p1 t1 => HY.out.rec2 HHF.out p1 t1 (by omega) (by omega) (by have := HY.out.l1; have := HY.out.l3; omega))
            clear p1 p2 hsa
            go_wp2_with (first | (go_at_call 59; (with_reducible refine (HROT.out _).mono ?_); rintro _ w1 ⟨rfl, t1⟩; have T1 := Lib.hid t1; clear t1; obtain ⟨W1, b1, b2, b3⟩ : ∃ W1, W1.Perm (Y1 ++ Z1) ∧ Ris ltE W1 ∧ SoR w g o cap n (P ++ W1 ++ (Y2 ++ (Z2 ++ R))) w1 := ⟨Z1, by rw [nY1]; simp, HY.out.r3, by have := T1.out; simpa [nY1] using this⟩; have B1 := Lib.hid b1; have B2 := Lib.hid b2; have T2 := Lib.hid b3; clear b1 b2 b3) | (go_at_call 46; (with_reducible refine (HREC2.out _ W1 B1.out T2.out).mono ?_); rintro _ w3 ⟨rfl, t3⟩; obtain ⟨W2, f1, f2, f3⟩ := t3.ex; have F1 := Lib.hid f1; have F2 := Lib.hid f2; have T3 := Lib.hid f3; clear f1 f2 f3 t3))
            go_end0
            exact ⟨rfl, HY.out.fin B1.out B2.out F1.out F2.out (by have := T3.out; simpa using this)⟩
          · have p1 := HEE.out; have p2 := HU.out
            have hsa : a = s := by omega
            have heb : e = b := by omega
            have i0 : decide (s < m) = true := by rw [decide_eq_true_eq]; omega
            have j0 : decide ((s : Int) < (m : Int)) = true := by rw [decide_eq_true_eq]; omega
            have i1 : decide (m < e) = true := by rw [decide_eq_true_eq]; omega
            have j1 : decide ((m : Int) < (e : Int)) = true := by rw [decide_eq_true_eq]; omega
            have i2 : decide (a < s) = false := by rw [decide_eq_false_iff_not]; omega
            have j2 : decide ((a : Int) < (s : Int)) = false := by rw [decide_eq_false_iff_not]; omega
            have i3 : decide (s < q) = true := by rw [decide_eq_true_eq]; omega
            have j3 : decide ((s : Int) < (q : Int)) = true := by rw [decide_eq_true_eq]; omega
            have i4 : decide (q < e) = true := by rw [decide_eq_true_eq]; omega
            have j4 : decide ((q : Int) < (e : Int)) = true := by rw [decide_eq_true_eq]; omega
            have i5 : decide (e < b) = false := by rw [decide_eq_false_iff_not]; omega
            have j5 : decide ((e : Int) < (b : Int)) = false := by rw [decide_eq_false_iff_not]; omega
            have HROT : Hid (∀ f : Value, _) := Lib.hid (HY.out.rot hnc hcm0.out hs1.out (by omega) (by omega))
            have nY1 : Y1 = [] := nil_of HY.out.l1 (by omega)
            have nZ2 : Z2 = [] := nil_of HY.out.l4 (by omega)
            clear p1 p2 hsa heb
            go_wp2_with (first | (go_at_call 59; (with_reducible refine (HROT.out _).mono ?_); rintro _ w1 ⟨rfl, t1⟩; have T1 := Lib.hid t1; clear t1; obtain ⟨W1, b1, b2, b3⟩ : ∃ W1, W1.Perm (Y1 ++ Z1) ∧ Ris ltE W1 ∧ SoR w g o cap n (P ++ W1 ++ (Y2 ++ (Z2 ++ R))) w1 := ⟨Z1, by rw [nY1]; simp, HY.out.r3, by have := T1.out; simpa [nY1, nZ2] using this⟩; have B1 := Lib.hid b1; have B2 := Lib.hid b2; have T2 := Lib.hid b3; clear b1 b2 b3))
            go_end0
            exact ⟨rfl, HY.out.fin (W2 := Y2) B1.out B2.out (by rw [nZ2]; simp) HY.out.r2 (by have := T2.out; simpa [nY1, nZ2] using this)⟩
      · have hsa : a < s := by omega
        have heb : e < b := by have := HEE.out; have := HU.out; omega
        by_cases hsq : s < q
        · have p1 := HEE.out; have p2 := HU.out
          have hsm : s = m := by omega
          have i0 : decide (s < m) = false := by rw [decide_eq_false_iff_not]; omega
          have j0 : decide ((s : Int) < (m : Int)) = false := by rw [decide_eq_false_iff_not]; omega
          have i1 : decide (m < e) = true := by rw [decide_eq_true_eq]; omega
          have j1 : decide ((m : Int) < (e : Int)) = true := by rw [decide_eq_true_eq]; omega
          have i2 : decide (a < s) = true := by rw [decide_eq_true_eq]; omega
          have j2 : decide ((a : Int) < (s : Int)) = true := by rw [decide_eq_true_eq]; omega
          have i3 : decide (s < q) = true := by rw [decide_eq_true_eq]; omega
          have j3 : decide ((s : Int) < (q : Int)) = true := by rw [decide_eq_true_eq]; omega
          have i4 : decide (q < e) = false := by rw [decide_eq_false_iff_not]; omega
          have j4 : decide ((q : Int) < (e : Int)) = false := by rw [decide_eq_false_iff_not]; omega
          have i5 : decide (e < b) = true := by rw [decide_eq_true_eq]; omega
          have j5 : decide ((e : Int) < (b : Int)) = true := by rw [decide_eq_true_eq]; omega
          have nY2 : Y2 = [] := nil_of HY.out.l2 (by omega)
          have T1 : Hid (SoR w g o cap n (P ++ Y1 ++ Z1 ++ (Y2 ++ (Z2 ++ R))) wr) := Lib.hid (by have := hs1.out; simpa [nY2] using this)
          have HREC1 : Hid (∀ w1 : World, SoR w g o cap n (P ++ Y1 ++ Z1 ++ (Y2 ++ (Z2 ++ R))) w1 → _) := Lib.hid (fun w1 t1 => HY.out.rec1 HHF.out t1 (by omega) (by omega) (by have := HY.out.l2; have := HY.out.l4; omega))
          clear p1 p2 hsm
          go_wp2_with (first | (go_at_call 46; (with_reducible refine (HREC1.out _ T1.out).mono ?_); rintro _ w2 ⟨rfl, t2⟩; obtain ⟨W1, b1, b2, b3⟩ := t2.ex; have B1 := Lib.hid b1; have B2 := Lib.hid b2; have T2 := Lib.hid b3; clear b1 b2 b3 t2))
          go_end0
          exact ⟨rfl, HY.out.fin (W2 := Z2) B1.out B2.out (by rw [nY2]; simp) HY.out.r4 (by have := T2.out; simpa [nY2] using this)⟩
        · have p1 := HEE.out; have p2 := HU.out
          have hsm : s = m := by omega
          have hsq : s = q := by omega
          have i0 : decide (s < m) = false := by rw [decide_eq_false_iff_not]; omega
          have j0 : decide ((s : Int) < (m : Int)) = false := by rw [decide_eq_false_iff_not]; omega
          have i1 : decide (m < e) = false := by rw [decide_eq_false_iff_not]; omega
          have j1 : decide ((m : Int) < (e : Int)) = false := by rw [decide_eq_false_iff_not]; omega
          have i2 : decide (a < s) = true := by rw [decide_eq_true_eq]; omega
          have j2 : decide ((a : Int) < (s : Int)) = true := by rw [decide_eq_true_eq]; omega
          have i3 : decide (s < q) = false := by rw [decide_eq_false_iff_not]; omega
          have j3 : decide ((s : Int) < (q : Int)) = false := by rw [decide_eq_false_iff_not]; omega
          have i4 : decide (q < e) = false := by rw [decide_eq_false_iff_not]; omega
          have j4 : decide ((q : Int) < (e : Int)) = false := by rw [decide_eq_false_iff_not]; omega
          have i5 : decide (e < b) = true := by rw [decide_eq_true_eq]; omega
          have j5 : decide ((e : Int) < (b : Int)) = true := by rw [decide_eq_true_eq]; omega
          have nY2 : Y2 = [] := nil_of HY.out.l2 (by omega)
          have nZ1 : Z1 = [] := nil_of HY.out.l3 (by omega)
          have T1 : Hid (SoR w g o cap n (P ++ Y1 ++ Z1 ++ (Y2 ++ (Z2 ++ R))) wr) := Lib.hid (by have := hs1.out; simpa [nY2, nZ1] using this)
          obtain ⟨W1, b1, b2, b3⟩ : ∃ W1, W1.Perm (Y1 ++ Z1) ∧ Ris ltE W1 ∧ SoR w g o cap n (P ++ W1 ++ (Y2 ++ (Z2 ++ R))) wr := ⟨Y1, by rw [nZ1]; simp, HY.out.r1, by have := T1.out; simpa [nY2, nZ1] using this⟩; have B1 := Lib.hid b1; have B2 := Lib.hid b2; have T2 := Lib.hid b3; clear b1 b2 b3
          clear p1 p2 hsm hsq
          go_wp2_with fail
          go_end0
          exact ⟨rfl, HY.out.fin (W2 := Z2) B1.out B2.out (by rw [nY2]; simp) HY.out.r4 (by have := T2.out; simpa [nY2, nZ1] using this)⟩

end Go.Proofs.Ytejeadccpigepaa.Dir
/- dirfs: symMerge whole; slices.SortStableFunc of entries; List of any directory. -/
namespace Go.Proofs.Ytejeadccpigepaa.Dir
open Go.RowKit Go.Maps Go.Proofs.Ytejeadccpigepaa Go.Proofs.Ytejeadccpigepaa.Ino
set_option maxRecDepth 100000

theorem sym_all {g o cap n : Nat} (hn : n ≤ 3200) (hnc : n ≤ cap) (hcm : cap ≤ maxLen) : ∀ f, SymF g o cap n f
  | 0 => fun w P X1 X2 R a m b hf => absurd hf (Nat.not_lt_zero _)
  | f + 1 => by
    intro w P X1 X2 R a m b hf h r1 r2 n1 n2 ha hm hb
    have ih := sym_all (g := g) (o := o) hn hnc hcm f
    have HF : SymF g o cap n (X1.length + X2.length) := fun w' P' A B R' a' m' b' hl => ih w' P' A B R' a' m' b' (by omega)
    match X1, X2, n1, n2 with
    | [x], X2, _, _ => exact sym_one P X2 R x h r2 hn hnc hcm a m b ha hm hb
    | x :: y :: X1', [z], _, _ => exact sym_last P (x :: y :: X1') R z h r1 (by simp) hn hnc hcm a m b ha hm hb
    | x :: y :: X1', z :: t :: X2', _, _ =>
      by_cases hq : (a + b) / 2 < m
      · exact sym_twoA P (x :: y :: X1') (z :: t :: X2') R h r1 r2 (by simp) (by simp) hn hnc hcm HF a m b _ ha hm hb rfl hq
      · exact sym_twoB P (x :: y :: X1') (z :: t :: X2') R h r1 r2 (by simp) (by simp) hn hnc hcm HF a m b _ ha hm hb rfl (by omega)

theorem sym_m {g o cap n : Nat} (hn : n ≤ 3200) (hnc : n ≤ cap) (hcm : cap ≤ maxLen) : SymM g o cap n :=
  fun w P X1 X2 R a m b h r1 r2 n1 n2 ha hm hb => sym_all hn hnc hcm (X1.length + X2.length + 1) w P X1 X2 R a m b (Nat.lt_succ_self _) h r1 r2 n1 n2 ha hm hb

/-- What List answers: the entries with names, sorted. -/
structure LsB (E : List Ent) (w : World) (x : Ending) (w' : World) : Prop where
  ex : ∃ (ad : Option Addr) (cap n : Nat) (L : List Ent), x = .returned (.tuple #[.slice ad n cap, .nilIface]) ∧ L.Perm (E.filter named) ∧ Ris ltE L ∧ L.length = n ∧ n ≤ cap ∧ cap ≤ maxLen ∧ Row w' 51 2 (.slice ad n cap) n (ecells L)
  keep : Keep (fun _ => False) w w'

/-! ### no entries at all -/
theorem ins_zero {w : World} (v f : Value) : Calls Try.prog 45 #[v, .int .i64 0, .int .i64 0, f] w fun e w' => e = .returned (.tuple #[]) ∧ w = w' := by
  go_enter Try.func45, Try.ntmps45
  go_wp2
  go_loopw [8, 9] (fun i _ wr => i = .int .i64 1 ∧ wr = w) (fun _ _ _ => 0)
  case atStart => exact ⟨rfl, rfl⟩
  case round =>
    obtain ⟨rfl, rfl⟩ := hrel
    go_wp2
    go_end0
    exact ⟨rfl, rfl⟩

theorem stable_zero {w : World} (v f : Value) : Calls Try.prog 35 #[v, .int .i64 0, f] w fun e w' => e = .returned (.tuple #[]) ∧ w = w' := by
  go_enter Try.func35, Try.ntmps35
  go_wp2
  go_loopw [7, 8] (fun a b wr => a = .int .i64 0 ∧ b = .int .i64 20 ∧ wr = w) (fun _ _ _ => 0)
  case atStart => exact ⟨rfl, rfl, rfl⟩
  case round =>
    obtain ⟨rfl, rfl, rfl⟩ := hrel
    go_wp2_with (go_at_call 45; (with_reducible refine (ins_zero _ _).mono ?_); rintro e w' ⟨rfl, rfl⟩)
    go_loopw [6, 7, 8, 9] (fun bs _ _ _ wr' => bs = .int .i64 20 ∧ wr' = wr) (fun _ _ _ _ _ => 0)
    case atStart => exact ⟨rfl, rfl⟩
    case round =>
      obtain ⟨rfl, rfl⟩ := hrel
      go_wp2
      go_end0
      exact ⟨rfl, rfl⟩

theorem sort_zero {w : World} (ad : Option Addr) (cap : Nat) (f : Value) : Calls Try.prog 24 #[.slice ad 0 cap, f] w fun e w' => e = .returned (.tuple #[]) ∧ w = w' := by
  go_enter Try.func24, Try.ntmps24
  go_wp2_with (go_at_call 35; (with_reducible refine (stable_zero _ _).mono ?_); rintro e w' ⟨rfl, rfl⟩)
  go_end0
  exact ⟨rfl, rfl⟩

theorem filter_named {E : List Ent} (h : plc E [] = none) : E.filter named = E := by
  unfold plc at h
  rw [List.findIdx?_eq_none_iff] at h
  rw [List.filter_eq_self]
  intro a ha
  have := h a ha
  simp [named] at this ⊢
  exact this

/-- Entries sorted, wherever they lie. -/
theorem sortL_any {w : World} {ad : Option Addr} {n cap : Nat} {D : List Ent} (hr : Row w 51 2 (.slice ad n cap) n (ecells D)) (hl : D.length = n) (hn : n ≤ 3200) :
    Calls Try.prog 24 #[.slice ad n cap, .func (.func 25) #[] #[]] w fun e w' => e = .returned (.tuple #[]) ∧ ∃ L, L.Perm D ∧ Ris ltE L ∧ Row w' 51 2 (.slice ad n cap) n (ecells L) ∧ Keep (fun x => (Value.slice ad n cap).ownBlock = some x) w w' := by
  rcases Nat.eq_zero_or_pos n with h0 | h0
  · subst h0
    obtain rfl : D = [] := List.eq_nil_of_length_eq_zero hl
    refine (sort_zero ad cap _).mono ?_
    rintro e w' ⟨rfl, rfl⟩
    exact ⟨rfl, [], List.Perm.refl _, List.Pairwise.nil, hr, Keep.refl _ _⟩
  · obtain ⟨g, o, c, hv, hnc, hcm⟩ := hr.full h0
    obtain ⟨rfl, -, rfl⟩ := (Value.slice.injEq ..).mp hv
    refine (sort6_any (w := w) D ⟨hl, hr, Keep.refl _ _⟩ hn hnc hcm (sym_m hn hnc hcm)).mono ?_
    rintro e w' ⟨rfl, h⟩
    obtain ⟨X', p1, p2, p3⟩ := h.ex
    refine ⟨rfl, X', p1, p2, by simpa using p3.row, p3.keep.mono (fun i _ h => ?_)⟩
    subst h; rfl

/-- Entries without names taken out, wherever they lie. -/
theorem deleteL_any {w : World} {ad : Option Addr} {n cap : Nat} {E : List Ent} (hr : Row w 51 2 (.slice ad n cap) n (ecells E)) (hl : E.length = n) (hn : n ≤ 3200) :
    Calls Try.prog 22 #[.slice ad n cap, .func (.func 23) #[] #[]] w fun e w' => ∃ m, m = (E.filter named).length ∧ e = .returned (.slice ad m cap) ∧ Row w' 51 2 (.slice ad m cap) m (ecells (E.filter named)) ∧ Keep (fun x => (Value.slice ad n cap).ownBlock = some x) w w' := by
  subst hl
  cases hp : plc E [] with
  | none =>
    have hf := filter_named hp
    refine (deleteF_none (E := E) hr (by omega) (fun e he => ?_)).mono ?_
    · rw [← hf] at he
      have := (List.mem_filter.1 he).2
      simpa [named] using this
    · rintro e w' ⟨rfl, k⟩
      exact ⟨E.length, by rw [hf], rfl, by rw [hf]; exact hr.keep k (fun _ _ h => h), k.mono (fun _ _ h => h.elim)⟩
  | some i0 =>
    have h0 : 0 < E.length := by
      unfold plc at hp
      rw [List.findIdx?_eq_some_iff_getElem] at hp
      obtain ⟨h, _⟩ := hp
      omega
    obtain ⟨g, o, c, hv, hnc, hcm⟩ := hr.full h0
    obtain ⟨rfl, -, rfl⟩ := (Value.slice.injEq ..).mp hv
    refine (deleteF_some (w := w) ⟨rfl, hr, Keep.refl _ _⟩ hn hnc hcm hp).mono ?_
    rintro e w' h
    exact ⟨_, rfl, h.ret, h.row, h.keep.mono (fun i _ h => by subst h; rfl)⟩

set_option maxHeartbeats 1000000 in
theorem list6_any {w : World} {F : Nat → Prop} {p s : Nat} {S : Sto} {T : List Nat} {E : List Ent} (h : Dr w F p s S T E) : Calls Try.prog 14 #[.pointer (some ⟨p, 0, none⟩)] w (LsB E w) := by
  have HS := Lib.hid (slots_any h)
  have HE : Hid (E.length ≤ 3200) := Lib.hid (by have := h.fl.top; omega)
  clear h
  go_enter Try.func14, Try.ntmps14
  go_wp2_with (go_at_call 17; (with_reducible refine HS.out.mono ?_); rintro x w1 ⟨v, rfl, hr, k1, hf⟩; have K1 := Lib.hid k1; have HF := Lib.hid hf; obtain ⟨n, hn⟩ : ∃ n, n = E.length := ⟨_, rfl⟩; rw [← hn] at hr; have HN := Lib.hid hn; have HR := Lib.hid hr; obtain ⟨va, vc, rfl, _, _⟩ := hr.slice; clear k1 hf hr hn)
  have HD := Lib.hid (deleteL_any HR.out HN.out.symm (by rw [HN.out]; exact HE.out))
  go_wp2_with (go_at_call 22; (with_reducible refine HD.out.mono ?_); rintro x w2 ⟨m, hm, rfl, hr2, k2⟩; have K2 := Lib.hid k2; have HR2 := Lib.hid hr2; have HM := Lib.hid hm; clear k2 hr2 hm)
  have HS2 := Lib.hid (sortL_any HR2.out HM.out.symm (by have := List.length_filter_le named E; rw [HM.out]; have := HE.out; omega))
  go_wp2_with (go_at_call 24; (with_reducible refine HS2.out.mono ?_); rintro x w3 ⟨rfl, L, hp, hri, hr3, k3⟩; have K3 := Lib.hid k3; have HR3 := Lib.hid hr3; have HP := Lib.hid hp; have HRI := Lib.hid hri; clear k3 hr3 hp hri)
  go_ret2
  have hs := HR3.out.slice
  obtain ⟨a, c, hv, hc1, hc2⟩ := hs
  simp only [Value.slice.injEq] at hv
  obtain ⟨_, _, rfl⟩ := hv
  refine ⟨⟨_, _, _, L, rfl, HP.out, HRI.out, ?_, hc1, hc2, HR3.out⟩, (K1.out.trans K2.out (fun i hi => .inr (HF.out i ?_))).trans K3.out (fun i hi => .inr (HF.out i ?_))⟩
  · rw [HP.out.length_eq, ← HM.out]
  · simpa [Value.ownBlock] using hi
  · cases va with
    | none => simp [Value.ownBlock] at hi
    | some a => simpa [Value.ownBlock] using hi

end Go.Proofs.Ytejeadccpigepaa.Dir
