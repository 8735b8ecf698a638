/- dirfs: names compared; two entries change places. -/
import Derived.Test.YtejeadccpigepaaList1
import Derived.Test.YtejeadccpigepaaOrd
import Derived.Lib.Bytealg
import Derived.Deep.CutBlock
import Derived.Deep.CutRange
import Derived.Deep.RegionHeld3
import Derived.IntWalk
namespace Go.Proofs.Ytejeadccpigepaa.Dir
open Go.RowKit Go.Maps Go.Proofs.Ytejeadccpigepaa Go.Proofs.Ytejeadccpigepaa.Ino
set_option maxRecDepth 100000

/-- Is a name ahead of another? -/
def ltE (a b : Ent) : Bool := decide (Lib.compareBytes a.1 b.1 < 0)

theorem cmp_self (a : List UInt8) : Lib.compareBytes a a = 0 := by
  induction a with
  | nil => rfl
  | cons x r ih => rw [Lib.compareBytes, if_neg (UInt8.lt_irrefl x), if_neg (UInt8.lt_irrefl x)]; exact ih

theorem cmp_swap : ∀ a b : List UInt8, Lib.compareBytes b a = - Lib.compareBytes a b
  | [], [] => rfl
  | [], _ :: _ => rfl
  | _ :: _, [] => rfl
  | a :: ar, b :: br => by
    rw [Lib.compareBytes, Lib.compareBytes]
    by_cases h1 : a < b
    · have h2 : ¬ b < a := fun h => UInt8.lt_asymm h h1
      simp [h1, h2]
    · by_cases h2 : b < a
      · simp [h1, h2]
      · simp only [h1, h2, if_false]; exact cmp_swap ar br

theorem u8_tri {a b : UInt8} (h1 : ¬ a < b) (h2 : ¬ b < a) : a = b := by
  rw [UInt8.lt_iff_toNat_lt] at h1 h2
  exact UInt8.toNat_inj.1 (by omega)

theorem cmp_zero : ∀ a b : List UInt8, Lib.compareBytes a b = 0 → a = b
  | [], [], _ => rfl
  | [], _ :: _, h => by simp [Lib.compareBytes] at h
  | _ :: _, [], h => by simp [Lib.compareBytes] at h
  | a :: ar, b :: br, h => by
    rw [Lib.compareBytes] at h
    by_cases h1 : a < b
    · rw [if_pos h1] at h; simp at h
    · by_cases h2 : b < a
      · rw [if_neg h1, if_pos h2] at h; simp at h
      · rw [if_neg h1, if_neg h2] at h
        rw [u8_tri h1 h2, cmp_zero ar br h]

/-- At most, and at most, make at most. -/
theorem cmp_tr : ∀ a b c : List UInt8, Lib.compareBytes a b ≤ 0 → Lib.compareBytes b c ≤ 0 → Lib.compareBytes a c ≤ 0
  | [], _, [], _, _ => by simp [Lib.compareBytes]
  | [], _, _ :: _, _, _ => by simp [Lib.compareBytes]
  | _ :: _, [], _, h, _ => by simp [Lib.compareBytes] at h
  | _ :: _, _ :: _, [], _, h => by simp [Lib.compareBytes] at h
  | a :: ar, b :: br, c :: cr, h1, h2 => by
    rw [Lib.compareBytes] at h1 h2 ⊢
    by_cases ab : b < a
    · rw [if_neg (fun h => UInt8.lt_asymm h ab), if_pos ab] at h1; simp at h1
    · by_cases bc : c < b
      · rw [if_neg (fun h => UInt8.lt_asymm h bc), if_pos bc] at h2; simp at h2
      · by_cases ac : a < c
        · rw [if_pos ac]; simp
        · have hab : ¬ a < b := fun h => by
            rw [UInt8.lt_iff_toNat_lt] at *; omega
          have hbc : ¬ b < c := fun h => by
            rw [UInt8.lt_iff_toNat_lt] at *; omega
          have hca : ¬ c < a := fun h => by
            rw [UInt8.lt_iff_toNat_lt] at *; omega
          rw [if_neg hab, if_neg ab] at h1
          rw [if_neg hbc, if_neg bc] at h2
          rw [if_neg ac, if_neg hca]
          exact cmp_tr ar br cr h1 h2

theorem wk_ltE : Wk ltE where
  tot a b := by
    unfold ltE
    have := cmp_swap a.1 b.1
    by_cases h : Lib.compareBytes a.1 b.1 < 0
    · right; rw [decide_eq_false_iff_not]; omega
    · left; rw [decide_eq_false_iff_not]; exact h
  tr a b c h1 h2 := by
    unfold ltE at *
    rw [decide_eq_false_iff_not] at *
    have s1 := cmp_swap a.1 b.1; have s2 := cmp_swap b.1 c.1; have s3 := cmp_swap a.1 c.1
    have := cmp_tr a.1 b.1 c.1 (by omega) (by omega)
    omega

theorem cstr_any {w : World} (a b : ByteArray) : Calls Try.prog 26 #[.string a, .string b] w fun e w' => e = .returned (.int .i64 (Lib.compareBytes a.data.toList b.data.toList)) ∧ w = w' := by
  have hb : Calls Try.prog 36 #[.string a, .string b] w fun e w' => e = .returned (.int .i64 (Lib.compareBytes a.data.toList b.data.toList)) ∧ w = w' := by
    go_enter Try.func36, Try.ntmps36
    go_wp2
    rw [run_callFunc_extern Try.func47 (by kernel_rfl) (by kernel_rfl) (by kernel_rfl) (e := Extern.BytealgCompare.compare) (by kernel_rfl), Lib.run_compareString]
    simp only [Result.andThen]
    rw [Oper.upon_value]
    go_wp2
    go_ret
    exact ⟨rfl, rfl⟩
  have HB := Lib.hid hb
  clear hb
  go_enter Try.func26, Try.ntmps26
  go_wp2_with (go_at_call 36; (with_reducible refine HB.out.mono ?_); rintro e w' ⟨rfl, rfl⟩)
  go_ret
  exact ⟨rfl, rfl⟩

theorem Try.enList2 : ∀ args w, (callFunc 25 args).run Try.prog w = .ok (.enter 25 args) w := enters_of Try.func25 (by kernel_rfl) rfl

/-- The closure that compares. -/
theorem cmpE_any {w : World} (s t : ByteArray) (x y : Int) : Calls Try.prog 25 #[.agg #[.string s, .int .i64 x], .agg #[.string t, .int .i64 y]] w fun e w' => e = .returned (.int .i64 (Lib.compareBytes s.data.toList t.data.toList)) ∧ Keep (fun _ => False) w w' := by
  go_enter Try.func25, Try.ntmps25
  go_wp2_with (go_at_call 26; (with_reducible refine (cstr_any _ _).mono ?_); rintro e w' ⟨rfl, rfl⟩)
  go_ret
  exact ⟨rfl, ((Keep.refl _ _).alloc _).alloc _⟩

/-- Entries that are being sorted. -/
structure SoR (w0 : World) (g o cap n : Nat) (D : List Ent) (wr : World) : Prop where
  len : D.length = n
  row : Row wr 51 2 (.slice (some ⟨g, o, none⟩) n cap) n (ecells D)
  keep : Keep (fun x => x = g) w0 wr

theorem SoR.drew {w0 wr : World} {g o cap n : Nat} {D : List Ent} (h : SoR w0 g o cap n D wr) : SoR w0 g o cap n D wr.drew := ⟨h.len, h.row, h.keep.drew⟩

theorem SoR.go {w0 wr w2 : World} {g o cap n : Nat} {D : List Ent} (h : SoR w0 g o cap n D wr) (k : Keep (fun _ => False) wr w2) : SoR w0 g o cap n D w2 :=
  ⟨h.len, h.row.keep k (fun _ _ h => h), h.keep.trans k (fun _ h => h.elim)⟩

theorem SoR.cell {w0 wr : World} {g o cap n : Nat} {D : List Ent} (h : SoR w0 g o cap n D wr) {i : Nat} (hi : i < n) (hD : i < D.length := by omega) :
    wr.cell? ⟨g, o + i * 2, none⟩ = some (.string ⟨D[i].1.toArray⟩) ∧ wr.cell? ⟨g, o + i * 2 + 1, none⟩ = some (.int .i64 (D[i].2 : Int)) ∧ wr.frozen? ⟨g, o + i * 2, none⟩ = false ∧ wr.frozen? ⟨g, o + i * 2 + 1, none⟩ = false := by
  have hc := h.row.slice
  obtain ⟨a, c, hv, hc1, _⟩ := hc
  simp only [Value.slice.injEq] at hv
  obtain ⟨_, _, rfl⟩ := hv
  refine ⟨(h.row.cellAt (i * 2) (by omega)).trans (ecells_get0 D i hD), ?_, (h.row.there (i * 2) (by omega)).2, ?_⟩
  · rw [Nat.add_assoc]; exact (h.row.cellAt (i * 2 + 1) (by omega)).trans (ecells_get1 D i hD)
  · rw [Nat.add_assoc]; exact (h.row.there (i * 2 + 1) (by omega)).2

theorem SoR.put {w0 wr : World} {g o cap n : Nat} {D : List Ent} (h : SoR w0 g o cap n D wr) (i : Nat) (e : Ent) : SoR w0 g o cap n (D.set i e) ((wr.setCell ⟨g, o + i * 2, none⟩ (.string ⟨e.1.toArray⟩)).setCell ⟨g, o + i * 2 + 1, none⟩ (.int .i64 (e.2 : Int))) := by
  refine ⟨by rw [List.length_set]; exact h.len, ?_, (h.keep.setCell _ _ (.inl rfl)).setCell _ _ (.inl rfl)⟩
  have h1 := (h.row.stored (i * 2) (.string ⟨e.1.toArray⟩)).stored (i * 2 + 1) (.int .i64 (e.2 : Int))
  rw [ecells_set, ← Nat.add_assoc] at h1
  exact h1

theorem perm_swap {α : Type} (A B C : List α) (x y : α) : (A ++ x :: B ++ y :: C).Perm (A ++ y :: B ++ x :: C) := by
  simp only [List.append_assoc]
  refine List.Perm.append_left A ?_
  have h1 : (x :: B ++ y :: C).Perm (x :: y :: (B ++ C)) := List.perm_middle.cons x
  have h2 : (y :: B ++ x :: C).Perm (y :: x :: (B ++ C)) := List.perm_middle.cons y
  exact h1.trans ((List.Perm.swap y x _).trans h2.symm)

end Go.Proofs.Ytejeadccpigepaa.Dir
/- dirfs: the insertion sort of entries. -/
namespace Go.Proofs.Ytejeadccpigepaa.Dir
open Go.RowKit Go.Maps Go.Proofs.Ytejeadccpigepaa Go.Proofs.Ytejeadccpigepaa.Ino
set_option maxRecDepth 100000

/-- What a sort of a piece may leave. -/
structure SrtA (w0 : World) (g o cap n : Nat) (P X R : List Ent) (wr : World) : Prop where
  ex : ∃ X', X'.Perm X ∧ Ris ltE X' ∧ SoR w0 g o cap n (P ++ X' ++ R) wr

/-- The outer loop: a front of the piece rises. -/
structure InO6 (w0 : World) (g o cap n a b : Nat) (P X R : List Ent) (iv : Value) (wr : World) : Prop where
  ex : ∃ (i : Nat) (X1 X2 : List Ent), iv = .int .i64 (i : Int) ∧ a + 1 ≤ i ∧ (X1 ++ X2).Perm X ∧ Ris ltE X1 ∧ X1.length = min (i - a) X.length ∧ SoR w0 g o cap n (P ++ (X1 ++ X2) ++ R) wr ∧ i ≤ b + 1

/-- The inner loop: one entry goes to its place. -/
structure InI6 (w0 : World) (g o cap n a i : Nat) (P X R : List Ent) (jv : Value) (wr : World) : Prop where
  ex : ∃ (j : Nat) (A B C : List Ent) (x : Ent), jv = .int .i64 (j : Int) ∧ a ≤ j ∧ j ≤ i ∧ A.length = j - a ∧ A.length + B.length = i - a ∧ (A ++ x :: B ++ C).Perm X ∧ Ris ltE (A ++ B) ∧ (∀ y ∈ B, ltE x y = true) ∧ SoR w0 g o cap n (P ++ (A ++ x :: B ++ C) ++ R) wr

set_option maxHeartbeats 4000000 in
theorem ins6_any {w : World} {g o cap n : Nat} (P X R : List Ent) (h : SoR w g o cap n (P ++ X ++ R) w) (hn : n ≤ 3200) (hnc : n ≤ cap) (hcm : cap ≤ maxLen) (a b : Nat) (ha : P.length = a) (hb : a + X.length = b) :
    Calls Try.prog 45 #[.slice (some ⟨g, o, none⟩) n cap, .int .i64 (a : Int), .int .i64 (b : Int), .func (.func 25) #[] #[]] w fun e w' => e = .returned (.tuple #[]) ∧ SrtA w g o cap n P X R w' := by
  have hen := Try.enList2
  have H := Lib.hid h
  have HL : Hid (b + R.length = n) := Lib.hid (by have := h.len; simp only [List.length_append] at this; omega)
  have hbn : b ≤ n := by have := HL.out; omega
  have hab : a ≤ b := by omega
  have HA := Lib.hid ha; have HB := Lib.hid hb
  unfold maxLen at hcm
  clear h ha hb
  go_enter Try.func45, Try.ntmps45
  go_wp2
  go_loopw [8, 9] (fun iv _ wr => InO6 w g o cap n a b P X R iv wr) (fun iv _ _ => b + 1 - (intOf iv).toNat)
  case atStart =>
    refine ⟨a + 1, X.take 1, X.drop 1, by go_num, by omega, by rw [List.take_append_drop], ?_, by rw [List.length_take]; omega, by rw [List.take_append_drop]; exact H.out, by omega⟩
    cases X with
    | nil => exact List.Pairwise.nil
    | cons x t => simp [Ris]
  case round =>
    obtain ⟨i, X1, X2, rfl, hi1, hperm, hris, hlen, hS, hib⟩ := hrel.ex
    have HS := Lib.hid hS; have HPM := Lib.hid hperm; have HRS := Lib.hid hris; have HLN := Lib.hid hlen
    clear hS hperm hris hlen hrel
    by_cases hlt : i < b
    · have hd : decide (i < b) = true := by rw [decide_eq_true_eq]; omega
      have H0 : Hid (InI6 w g o cap n a i P X R (.int .i64 (i : Int)) wr) := Lib.hid (by
        have hx1 : X1.length = i - a := by have := HLN.out; have := HB.out; omega
        have hx2 : X2 ≠ [] := fun e => by
          have := HPM.out.length_eq; have := HB.out
          rw [e, List.append_nil] at *; omega
        obtain ⟨x, C, rfl⟩ := List.exists_cons_of_ne_nil hx2
        exact ⟨i, X1, [], C, x, rfl, by omega, by omega, hx1, by simpa using hx1, by simpa using HPM.out, by simpa using HRS.out, by simp, by simpa using HS.out⟩)
      clear HS HPM HRS HLN
      go_wp2
      obtain ⟨wz, hwz⟩ : ∃ wz, wz = wr := ⟨wr, rfl⟩
      subst wr
      go_loopw [9] (fun jv wr => InI6 w g o cap n a i P X R jv wr) (fun jv _ => (intOf jv).toNat)
      case atStart => exact H0.out
      case round =>
        obtain ⟨j, A, B, C, x, rfl, hj1, hj2, hAl, hABl, hperm, hris, hlt2, hS⟩ := hrel.ex
        have HPM := Lib.hid hperm; have HRS := Lib.hid hris; have HLT := Lib.hid hlt2; have HS := Lib.hid hS
        have HAL := Lib.hid hAl; have HABL := Lib.hid hABl
        have HNX : Hid (∀ w2, SoR w g o cap n (P ++ (A ++ x :: B ++ C) ++ R) w2 → (∀ y, A.getLast? = some y → ltE x y = false) → InO6 w g o cap n a b P X R (.int .i64 ((i : Int) + 1)) w2) := Lib.hid (fun w2 hS2 hlast => by
          have hXl := HPM.out.length_eq
          refine ⟨i + 1, A ++ x :: B, C, by go_num, by omega, HPM.out, ris_insert wk_ltE HRS.out (fun y hy => wk_ltE.of_lt (HLT.out y hy)) hlast, ?_, hS2, by omega⟩
          simp only [List.length_append, List.length_cons] at hXl ⊢
          have := HABL.out; have := HB.out
          omega)
        clear hperm hris hlt2 hS hrel hAl hABl H0
        by_cases hja : a < j
        · have hd2 : decide (a < j) = true := by rw [decide_eq_true_eq]; omega
          have hd3 : decide ((a : Int) < (j : Int)) = true := by rw [decide_eq_true_eq]; omega
          obtain ⟨k, hk⟩ : ∃ k, j = k + 1 := ⟨j - 1, by omega⟩
          obtain ⟨A', y, hA'⟩ : ∃ A' y, A = A' ++ [y] := by
            rcases List.eq_nil_or_concat A with e | ⟨L, z, e⟩
            · have := HAL.out; rw [e] at this; simp at this; omega
            · exact ⟨L, z, by simpa using e⟩
          subst hA'
          have hAk : P.length + A'.length = k := by have h1 := HAL.out; have h2 := HA.out; simp only [List.length_append, List.length_singleton] at h1; omega
          have hD : P ++ (A' ++ [y] ++ x :: B ++ C) ++ R = (P ++ A') ++ y :: x :: (B ++ C ++ R) := by simp
          have hS := HS.out
          rw [hD] at hS
          have hjn : j < n := by omega
          have hlk : ((P ++ A') ++ y :: x :: (B ++ C ++ R))[k]? = some y := by
            rw [List.getElem?_append_right (by simp; omega)]; simp [hAk]
          have hlj : ((P ++ A') ++ y :: x :: (B ++ C ++ R))[j]? = some x := by
            rw [List.getElem?_append_right (by simp; omega)]; simp [hk, show k + 1 - (P.length + A'.length) = 1 by omega]
          have hkl : k < ((P ++ A') ++ y :: x :: (B ++ C ++ R)).length := (List.getElem?_eq_some_iff.1 hlk).1
          have hjl : j < ((P ++ A') ++ y :: x :: (B ++ C ++ R)).length := (List.getElem?_eq_some_iff.1 hlj).1
          obtain ⟨cy0, cy1, fy0, fy1⟩ := hS.cell (i := k) (by omega) hkl
          obtain ⟨cx0, cx1, fx0, fx1⟩ := hS.cell (i := j) (by omega) hjl
          rw [(List.getElem?_eq_some_iff.1 hlk).2] at cy0 cy1
          rw [(List.getElem?_eq_some_iff.1 hlj).2] at cx0 cx1
          have E1 : Hid ((j : Int) - 1 = (k : Int)) := Lib.hid (by omega)
          have HKJ := Lib.hid hk; have HAK := Lib.hid hAk; have HD := Lib.hid hD; have HS2 := Lib.hid hS
          have hw1 : IntKind.i64.wrap ((j : Int) - 1) = (j : Int) - 1 := IntWalk.i64_in _ (by omega)
          have hw2 : (0 : Int) ≤ (j : Int) - 1 := by omega
          have hw3 : (1 : Int) ≤ (j : Int) := by omega
          have hw4 : (j : Int) - 1 < (n : Int) := by omega
          have hw5 : ((j : Int) - 1).toNat = k := by omega
          have hgl : g < wr.heap.size := hS.row.lt (k := g) rfl
          have HLK := Lib.hid hlk; have HLJ := Lib.hid hlj; have HJ := Lib.hid hjl
          clear hk hAk hD hS hlk hlj hkl hjl fy0 fy1 fx0 fx1
          obtain ⟨z, hz⟩ : ∃ z, z = Lib.compareBytes x.1 y.1 := ⟨_, rfl⟩
          have HC : Hid (∀ w2 : World, Calls Try.prog 25 #[.agg #[.string ⟨x.1.toArray⟩, .int .i64 (x.2 : Int)], .agg #[.string ⟨y.1.toArray⟩, .int .i64 (y.2 : Int)]] w2 fun e w' => e = .returned (.int .i64 z) ∧ Keep (fun _ => False) w2 w') := Lib.hid (fun w2 => by rw [hz]; exact cmpE_any _ _ _ _)
          have HZ := Lib.hid hz
          clear hz
          go_wp2
          cases hl : decide (z < 0)
          · go_region_held3 (fun w' => w'.cell? ⟨g, o + j * 2, none⟩ = some (.string ⟨x.1.toArray⟩) ∧ w'.cell? ⟨g, o + j * 2 + 1, none⟩ = some (.int .i64 (x.2 : Int)) ∧ w'.cell? ⟨g, o + k * 2, none⟩ = some (.string ⟨y.1.toArray⟩) ∧ w'.cell? ⟨g, o + k * 2 + 1, none⟩ = some (.int .i64 (y.2 : Int))) (go_keep) (first
              | (go_at_call 25; (with_reducible refine (HC.out _).mono ?_); rintro e w2 ⟨rfl, k2⟩; have K2 := Lib.hid (((Keep.refl (fun _ => False) wr).drew).trans k2 (fun _ h => h.elim) : Keep (fun _ => False) wr w2); have d1 := (k2.cell (World.block_lt_of_cell? _ _ cx0) (fun h => h) (o + j * 2)).trans cx0; have d2 := (k2.cell (World.block_lt_of_cell? _ _ cx0) (fun h => h) (o + j * 2 + 1)).trans cx1; have d3 := (k2.cell (World.block_lt_of_cell? _ _ cx0) (fun h => h) (o + k * 2)).trans cy0; have d4 := (k2.cell (World.block_lt_of_cell? _ _ cx0) (fun h => h) (o + k * 2 + 1)).trans cy1; clear k2))
            have HL0 := Lib.hid hl
            clear hl d1 d2 d3 d4 cx0 cx1 cy0 cy1 hw1 hw2 hw3 hw4 hw5
            go_wp2_with fail
            go_roundw
            case rel => exact HNX.out _ (HS.out.go K2.out) (fun y' hy' => by
              simp at hy'
              subst hy'
              rw [ltE, ← HZ.out]; exact HL0.out)
            case measure => simp [intOf]; omega
          · go_region_held3 (fun w' => w'.cell? ⟨g, o + j * 2, none⟩ = some (.string ⟨x.1.toArray⟩) ∧ w'.cell? ⟨g, o + j * 2 + 1, none⟩ = some (.int .i64 (x.2 : Int)) ∧ w'.cell? ⟨g, o + k * 2, none⟩ = some (.string ⟨y.1.toArray⟩) ∧ w'.cell? ⟨g, o + k * 2 + 1, none⟩ = some (.int .i64 (y.2 : Int))) (go_keep) (first
              | (go_at_call 25; (with_reducible refine (HC.out _).mono ?_); rintro e w2 ⟨rfl, k2⟩; have K2 := Lib.hid (((Keep.refl (fun _ => False) wr).drew).trans k2 (fun _ h => h.elim) : Keep (fun _ => False) wr w2); have d1 := (k2.cell (World.block_lt_of_cell? _ _ cx0) (fun h => h) (o + j * 2)).trans cx0; have d2 := (k2.cell (World.block_lt_of_cell? _ _ cx0) (fun h => h) (o + j * 2 + 1)).trans cx1; have d3 := (k2.cell (World.block_lt_of_cell? _ _ cx0) (fun h => h) (o + k * 2)).trans cy0; have d4 := (k2.cell (World.block_lt_of_cell? _ _ cx0) (fun h => h) (o + k * 2 + 1)).trans cy1; clear k2))
            have HL0 := Lib.hid hl
            have HSW := Lib.hid (HS2.out.go K2.out)
            clear hl d1 d2 d3 d4 cx0 cx1 cy0 cy1
            have hkl := (List.getElem?_eq_some_iff.1 HLK.out).1
            obtain ⟨cy0, cy1, fy0, fy1⟩ := HSW.out.cell (i := k) (by omega) hkl
            obtain ⟨cx0, cx1, fx0, fx1⟩ := HSW.out.cell (i := j) (by omega) HJ.out
            rw [(List.getElem?_eq_some_iff.1 HLK.out).2] at cy0 cy1
            rw [(List.getElem?_eq_some_iff.1 HLJ.out).2] at cx0 cx1
            have HNEW : Hid (InI6 w g o cap n a i P X R (.int .i64 ((j : Int) - 1)) ((((w2.setCell ⟨g, o + j * 2, none⟩ (.string ⟨y.1.toArray⟩)).setCell ⟨g, o + j * 2 + 1, none⟩ (.int .i64 (y.2 : Int))).setCell ⟨g, o + k * 2, none⟩ (.string ⟨x.1.toArray⟩)).setCell ⟨g, o + k * 2 + 1, none⟩ (.int .i64 (x.2 : Int))).drew) := Lib.hid (by
              have h1 := ((HSW.out.put j y).put k x).drew
              have hset : (((P ++ A') ++ y :: x :: (B ++ C ++ R)).set j y).set k x = P ++ (A' ++ x :: (y :: B) ++ C) ++ R := by
                have hkk := HAK.out
                have hjj := HKJ.out
                rw [List.set_append_right _ _ (by simp; omega), List.set_append_right _ _ (by simp; omega)]
                simp only [List.length_append]
                rw [show j - (P.length + A'.length) = 1 by omega, show k - (P.length + A'.length) = 0 by omega]
                simp
              rw [hset] at h1
              refine ⟨k, A', y :: B, C, x, by rw [E1.out], ?_, ?_, ?_, ?_, ?_, ?_, ?_, h1⟩
              · have := HKJ.out; omega
              · have := HKJ.out; omega
              · have := HAL.out; have := HKJ.out; simp only [List.length_append, List.length_singleton] at *; omega
              · have h := HABL.out
                simp at h ⊢
                omega
              · have hp := HPM.out
                refine (?_ : List.Perm _ _).trans hp
                have h2 := perm_swap A' [] (B ++ C) x y
                simpa using h2
              · have := HRS.out; simpa using this
              · intro y' hy'
                rcases List.mem_cons.1 hy' with rfl | hy'
                · rw [ltE, ← HZ.out]; exact HL0.out
                · exact HLT.out y' hy')
            clear hkl
            go_wp2_with fail
            go_region
            all_goals go_wp2
            all_goals
              go_roundw
              case rel => exact HNEW.out
              case measure => simp [intOf]; omega
        · have hjeq : j = a := by omega
          have hA0 : A = [] := List.eq_nil_of_length_eq_zero (by have := HAL.out; omega)
          have hd2 : decide (a < j) = false := by rw [decide_eq_false_iff_not]; omega
          have hd3 : decide ((a : Int) < (j : Int)) = false := by rw [decide_eq_false_iff_not]; omega
          have HN2 : Hid (InO6 w g o cap n a b P X R (.int .i64 ((i : Int) + 1)) wr.drew) := Lib.hid (HNX.out _ HS.out.drew (fun y hy => by rw [hA0] at hy; simp at hy))
          clear hja hjeq hA0
          go_wp2
          go_region
          all_goals
            go_wp2
            go_roundw
            case rel => exact HN2.out
            case measure => simp [intOf]; omega
    · have hd : decide (i < b) = false := by rw [decide_eq_false_iff_not]; omega
      have HEND : Hid (SrtA w g o cap n P X R wr) := Lib.hid (by
        have hx2 : X2 = [] := by
          have := HPM.out.length_eq; have := HLN.out; have := HB.out
          simp only [List.length_append] at *
          exact List.eq_nil_of_length_eq_zero (by omega)
        subst hx2
        exact ⟨X1, by simpa using HPM.out, HRS.out, by simpa using HS.out⟩)
      go_wp2
      go_end0
      exact ⟨rfl, HEND.out⟩

end Go.Proofs.Ytejeadccpigepaa.Dir
