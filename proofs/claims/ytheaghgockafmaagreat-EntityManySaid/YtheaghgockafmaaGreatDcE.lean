/- World files: do lists rise? (made by tools/gendce.py). -/
import Derived.Test.YtheaghgockafmaaGreatDcA
import Derived.Test.YtheaghgockafmaaGreatDbW
namespace Go.Proofs.YtheaghgockafmaaGreat.Wd
open Go.RowKit Go.Maps Go.Proofs.YtheaghgockafmaaGreat Go.Proofs.YtheaghgockafmaaGreat.Lin Go.Sort
set_option maxRecDepth 100000

theorem keep_grown {w : World} (n : Nat) (os : Array Obj) : Keep (fun _ => False) w (grow (w.drewN n) os) :=
  ⟨rfl, rfl, rfl, by rw [size_grow]; exact Nat.le_add_right _ _, fun i hi _ => heap_grow_old _ _ hi⟩
def icellC (x : Int) : List Value := [.int .i64 x]
theorem icellC_lenA (x : Int) : (icellC x).length = 1 := rfl
theorem icells_flatC (l : List Int) : icells l = flat icellC l := icells_flat l

/-- The front of k records rises. -/
structure RsR {α : Type} (key : α → Int) (L : List α) (w0 : World) (iv : Value) (wr : World) : Prop where
  ex : ∃ m : Nat, (m + 1 ≤ L.length ∨ m = 0) ∧ iv = .int .i64 ((m + 1 : Nat) : Int) ∧ RiseTo (fun _ => true) key L (m + 1) ∧ Keep (fun _ => False) w0 wr
theorem riseTo_one {α : Type} (key : α → Int) (L : List α) : RiseTo (fun _ => true) key L 1 := fun j x hj hx => ⟨rfl, fun y h0 => by omega⟩
theorem rise_pair {α : Type} {key : α → Int} {L : List α} {k : Nat} (h : RiseTo (fun _ => true) key L k) (hk : L.length ≤ k) : L.Pairwise (fun a b => key a < key b) :=
  (RiseTo.all.2 (fun j x hj hx => h j x (by omega) hx)).2
theorem rise_npair {α : Type} {key : α → Int} {L : List α} {m : Nat} {x y : α} (hx : L[m + 1]? = some x) (hy : L[m]? = some y) (h : key x ≤ key y) : ¬ L.Pairwise (fun a b => key a < key b) := fun hp => by
  have := RiseTo.fail (ok := fun _ => true) (key := key) hx (.inr ⟨y, by omega, by simpa using hy, h⟩)
  exact this ⟨fun _ _ => rfl, hp⟩

theorem selfI_any {w : World} (x : Int) : Calls Tryz.prog 296 #[.int .i64 x] w fun e w' => e = .returned (.int .i64 x) ∧ ∃ n os, w' = grow (w.drewN n) os := by
  go_enter Tryz.func296, Tryz.ntmps296
  go_wp2
  go_ret
  exact ⟨rfl, 0, #[], by rw [grow_empty]; rfl⟩

set_option maxHeartbeats 8000000 in
theorem risesRoom_any {w : World} {v : Value} {L : List (RoomM)} (h : Seen w 10 v L.length (flat roomC L)) (_hl : L.length ≤ 1000000) :
    Calls Tryz.prog 278 #[v, .func (.func 184) #[] #[]] w fun e w' => ∃ b, e = .returned (.bool b) ∧ (b = true ↔ L.Pairwise (fun a b => a.id < b.id)) ∧ Keep (fun _ => False) w w' := by
  obtain ⟨_, a, cap, rfl, hc1, hc2, hcell⟩ := h
  unfold maxLen at hc2
  have HC := Lib.hid hcell
  have mixed := Tryz.mixedO
  clear hcell
  go_enter Tryz.func278, Tryz.ntmps278
  go_wp2
  go_loopw [5] (fun iv wr => RsR (fun x : RoomM => x.id) L w iv wr) (fun iv _ => L.length + 1 - (intOf iv).toNat)
  case atStart => exact ⟨0, .inr rfl, rfl, riseTo_one _ _, Keep.refl _ _⟩
  case round =>
    obtain ⟨m, hm, rfl, hr, hK⟩ := hrel.ex
    have HA := Lib.hid hr; have HK := Lib.hid hK
    clear hr hK hrel
    obtain ⟨k, hk⟩ : ∃ k, k = m + 1 := ⟨_, rfl⟩
    rw [← hk]
    have HKM := Lib.hid hk
    have hm2 : k ≤ L.length ∨ m = 0 := by omega
    by_cases hlt : k < L.length
    · have hd1 : decide (k < L.length) = true := by simpa using hlt
      obtain ⟨x, hx⟩ : ∃ x, L[k]? = some x := ⟨_, List.getElem?_eq_getElem hlt⟩
      obtain ⟨y, hy⟩ : ∃ y, L[m]? = some y := ⟨_, List.getElem?_eq_getElem (by omega)⟩
      obtain ⟨g1, off, rfl, hg, q⟩ := HC.out.resolve_left (by omega)
      have hrx := seen_range roomC_lenA HK.out hg q hx
      have hry := seen_range roomC_lenA HK.out hg q hy
      have e1 : (k : Int) - 1 = (m : Int) := by omega
      have hwm : IntKind.i64.wrap (m : Int) = (m : Int) := Cd.i64_nat m (by omega)
      have hml : m < L.length := by omega
      clear hk hm hm2
      have HX := Lib.hid hx
      have HY := Lib.hid hy
      have y0 := fun n os => cell_grown (w := wr) (a := ⟨g1, off + m * 10, none⟩) (v := .int .i64 y.id) (Nat.lt_of_lt_of_le hg HK.out.size) (hry 0 _ rfl) n os
      have y1 := fun n os => cell_grown (w := wr) (a := ⟨g1, off + m * 10 + 1, none⟩) (v := .string y.name) (Nat.lt_of_lt_of_le hg HK.out.size) (hry 1 _ rfl) n os
      have y2 := fun n os => cell_grown (w := wr) (a := ⟨g1, off + m * 10 + 2, none⟩) (v := .int .i64 y.kind) (Nat.lt_of_lt_of_le hg HK.out.size) (hry 2 _ rfl) n os
      have y3 := fun n os => cell_grown (w := wr) (a := ⟨g1, off + m * 10 + 3, none⟩) (v := .int .i64 y.price) (Nat.lt_of_lt_of_le hg HK.out.size) (hry 3 _ rfl) n os
      have y4 := fun n os => cell_grown (w := wr) (a := ⟨g1, off + m * 10 + 4, none⟩) (v := .int .i64 y.e0) (Nat.lt_of_lt_of_le hg HK.out.size) (hry 4 _ rfl) n os
      have y5 := fun n os => cell_grown (w := wr) (a := ⟨g1, off + m * 10 + 5, none⟩) (v := .int .i64 y.e1) (Nat.lt_of_lt_of_le hg HK.out.size) (hry 5 _ rfl) n os
      have y6 := fun n os => cell_grown (w := wr) (a := ⟨g1, off + m * 10 + 6, none⟩) (v := .int .i64 y.e2) (Nat.lt_of_lt_of_le hg HK.out.size) (hry 6 _ rfl) n os
      have y7 := fun n os => cell_grown (w := wr) (a := ⟨g1, off + m * 10 + 7, none⟩) (v := .int .i64 y.e3) (Nat.lt_of_lt_of_le hg HK.out.size) (hry 7 _ rfl) n os
      have y8 := fun n os => cell_grown (w := wr) (a := ⟨g1, off + m * 10 + 8, none⟩) (v := .int .i64 y.e4) (Nat.lt_of_lt_of_le hg HK.out.size) (hry 8 _ rfl) n os
      have y9 := fun n os => cell_grown (w := wr) (a := ⟨g1, off + m * 10 + 9, none⟩) (v := .int .i64 y.e5) (Nat.lt_of_lt_of_le hg HK.out.size) (hry 9 _ rfl) n os
      have x0 := fun n os => cell_grown (w := wr) (a := ⟨g1, off + k * 10, none⟩) (v := .int .i64 x.id) (Nat.lt_of_lt_of_le hg HK.out.size) (hrx 0 _ rfl) n os
      have x1 := fun n os => cell_grown (w := wr) (a := ⟨g1, off + k * 10 + 1, none⟩) (v := .string x.name) (Nat.lt_of_lt_of_le hg HK.out.size) (hrx 1 _ rfl) n os
      have x2 := fun n os => cell_grown (w := wr) (a := ⟨g1, off + k * 10 + 2, none⟩) (v := .int .i64 x.kind) (Nat.lt_of_lt_of_le hg HK.out.size) (hrx 2 _ rfl) n os
      have x3 := fun n os => cell_grown (w := wr) (a := ⟨g1, off + k * 10 + 3, none⟩) (v := .int .i64 x.price) (Nat.lt_of_lt_of_le hg HK.out.size) (hrx 3 _ rfl) n os
      have x4 := fun n os => cell_grown (w := wr) (a := ⟨g1, off + k * 10 + 4, none⟩) (v := .int .i64 x.e0) (Nat.lt_of_lt_of_le hg HK.out.size) (hrx 4 _ rfl) n os
      have x5 := fun n os => cell_grown (w := wr) (a := ⟨g1, off + k * 10 + 5, none⟩) (v := .int .i64 x.e1) (Nat.lt_of_lt_of_le hg HK.out.size) (hrx 5 _ rfl) n os
      have x6 := fun n os => cell_grown (w := wr) (a := ⟨g1, off + k * 10 + 6, none⟩) (v := .int .i64 x.e2) (Nat.lt_of_lt_of_le hg HK.out.size) (hrx 6 _ rfl) n os
      have x7 := fun n os => cell_grown (w := wr) (a := ⟨g1, off + k * 10 + 7, none⟩) (v := .int .i64 x.e3) (Nat.lt_of_lt_of_le hg HK.out.size) (hrx 7 _ rfl) n os
      have x8 := fun n os => cell_grown (w := wr) (a := ⟨g1, off + k * 10 + 8, none⟩) (v := .int .i64 x.e4) (Nat.lt_of_lt_of_le hg HK.out.size) (hrx 8 _ rfl) n os
      have x9 := fun n os => cell_grown (w := wr) (a := ⟨g1, off + k * 10 + 9, none⟩) (v := .int .i64 x.e5) (Nat.lt_of_lt_of_le hg HK.out.size) (hrx 9 _ rfl) n os
      clear hrx hry hx hy q
      by_cases hle : x.id ≤ y.id
      · have hb : decide (x.id ≤ y.id) = true := by simpa using hle
        have HLE := Lib.hid hle
        clear hle
        go_wp2
        go_quiet_grown (first | (go_at_call 184; exact Calls.grown_of (roomId_any _)))
        go_wp2
        go_ret
        exact ⟨false, rfl, by simp only [Bool.false_eq_true, false_iff]; exact rise_npair (key := (fun x : RoomM => x.id)) (HKM.out ▸ HX.out) HY.out HLE.out, HK.out.trans (keep_grown nq osq) (fun _ h => h.elim)⟩
      · have hb : decide (x.id ≤ y.id) = false := by simpa using hle
        have HLE : Hid (y.id < x.id) := Lib.hid (by omega)
        clear hle
        go_wp2
        go_quiet_grown (first | (go_at_call 184; exact Calls.grown_of (roomId_any _)))
        go_wp2
        go_roundw
        case rel => exact ⟨k, .inl (by omega), by go_num, HKM.out ▸ HA.out.next (HKM.out ▸ HX.out) rfl (fun z _ hz => by rw [show m + 1 - 1 = m by omega, HY.out] at hz; cases hz; exact HLE.out), HK.out.trans (keep_grown nq osq) (fun _ h => h.elim)⟩
        case measure => simp [intOf]; omega
    · have hd1 : decide (k < L.length) = false := by rw [decide_eq_false_iff_not]; omega
      clear hk hm
      go_wp2
      go_ret
      exact ⟨true, rfl, by simp only [true_iff]; exact rise_pair HA.out (by have := HKM.out; omega), HK.out⟩

set_option maxHeartbeats 8000000 in
theorem risesProto_any {w : World} {v : Value} {L : List (ProtoM)} (h : Seen w 5 v L.length (flat protoC L)) (_hl : L.length ≤ 1000000) :
    Calls Tryz.prog 285 #[v, .func (.func 187) #[] #[]] w fun e w' => ∃ b, e = .returned (.bool b) ∧ (b = true ↔ L.Pairwise (fun a b => a.id < b.id)) ∧ Keep (fun _ => False) w w' := by
  obtain ⟨_, a, cap, rfl, hc1, hc2, hcell⟩ := h
  unfold maxLen at hc2
  have HC := Lib.hid hcell
  have mixed := Tryz.mixedO
  clear hcell
  go_enter Tryz.func285, Tryz.ntmps285
  go_wp2
  go_loopw [5] (fun iv wr => RsR (fun x : ProtoM => x.id) L w iv wr) (fun iv _ => L.length + 1 - (intOf iv).toNat)
  case atStart => exact ⟨0, .inr rfl, rfl, riseTo_one _ _, Keep.refl _ _⟩
  case round =>
    obtain ⟨m, hm, rfl, hr, hK⟩ := hrel.ex
    have HA := Lib.hid hr; have HK := Lib.hid hK
    clear hr hK hrel
    obtain ⟨k, hk⟩ : ∃ k, k = m + 1 := ⟨_, rfl⟩
    rw [← hk]
    have HKM := Lib.hid hk
    have hm2 : k ≤ L.length ∨ m = 0 := by omega
    by_cases hlt : k < L.length
    · have hd1 : decide (k < L.length) = true := by simpa using hlt
      obtain ⟨x, hx⟩ : ∃ x, L[k]? = some x := ⟨_, List.getElem?_eq_getElem hlt⟩
      obtain ⟨y, hy⟩ : ∃ y, L[m]? = some y := ⟨_, List.getElem?_eq_getElem (by omega)⟩
      obtain ⟨g1, off, rfl, hg, q⟩ := HC.out.resolve_left (by omega)
      have hrx := seen_range protoC_lenA HK.out hg q hx
      have hry := seen_range protoC_lenA HK.out hg q hy
      have e1 : (k : Int) - 1 = (m : Int) := by omega
      have hwm : IntKind.i64.wrap (m : Int) = (m : Int) := Cd.i64_nat m (by omega)
      have hml : m < L.length := by omega
      clear hk hm hm2
      have HX := Lib.hid hx
      have HY := Lib.hid hy
      have y0 := fun n os => cell_grown (w := wr) (a := ⟨g1, off + m * 5, none⟩) (v := .int .i64 y.id) (Nat.lt_of_lt_of_le hg HK.out.size) (hry 0 _ rfl) n os
      have y1 := fun n os => cell_grown (w := wr) (a := ⟨g1, off + m * 5 + 1, none⟩) (v := .string y.name) (Nat.lt_of_lt_of_le hg HK.out.size) (hry 1 _ rfl) n os
      have y2 := fun n os => cell_grown (w := wr) (a := ⟨g1, off + m * 5 + 2, none⟩) (v := .int .i64 y.slot) (Nat.lt_of_lt_of_le hg HK.out.size) (hry 2 _ rfl) n os
      have y3 := fun n os => cell_grown (w := wr) (a := ⟨g1, off + m * 5 + 3, none⟩) (v := .int .i64 y.power) (Nat.lt_of_lt_of_le hg HK.out.size) (hry 3 _ rfl) n os
      have y4 := fun n os => cell_grown (w := wr) (a := ⟨g1, off + m * 5 + 4, none⟩) (v := .int .i64 y.price) (Nat.lt_of_lt_of_le hg HK.out.size) (hry 4 _ rfl) n os
      have x0 := fun n os => cell_grown (w := wr) (a := ⟨g1, off + k * 5, none⟩) (v := .int .i64 x.id) (Nat.lt_of_lt_of_le hg HK.out.size) (hrx 0 _ rfl) n os
      have x1 := fun n os => cell_grown (w := wr) (a := ⟨g1, off + k * 5 + 1, none⟩) (v := .string x.name) (Nat.lt_of_lt_of_le hg HK.out.size) (hrx 1 _ rfl) n os
      have x2 := fun n os => cell_grown (w := wr) (a := ⟨g1, off + k * 5 + 2, none⟩) (v := .int .i64 x.slot) (Nat.lt_of_lt_of_le hg HK.out.size) (hrx 2 _ rfl) n os
      have x3 := fun n os => cell_grown (w := wr) (a := ⟨g1, off + k * 5 + 3, none⟩) (v := .int .i64 x.power) (Nat.lt_of_lt_of_le hg HK.out.size) (hrx 3 _ rfl) n os
      have x4 := fun n os => cell_grown (w := wr) (a := ⟨g1, off + k * 5 + 4, none⟩) (v := .int .i64 x.price) (Nat.lt_of_lt_of_le hg HK.out.size) (hrx 4 _ rfl) n os
      clear hrx hry hx hy q
      by_cases hle : x.id ≤ y.id
      · have hb : decide (x.id ≤ y.id) = true := by simpa using hle
        have HLE := Lib.hid hle
        clear hle
        go_wp2
        go_quiet_grown (first | (go_at_call 187; exact Calls.grown_of (protoId_any _)))
        go_wp2
        go_ret
        exact ⟨false, rfl, by simp only [Bool.false_eq_true, false_iff]; exact rise_npair (key := (fun x : ProtoM => x.id)) (HKM.out ▸ HX.out) HY.out HLE.out, HK.out.trans (keep_grown nq osq) (fun _ h => h.elim)⟩
      · have hb : decide (x.id ≤ y.id) = false := by simpa using hle
        have HLE : Hid (y.id < x.id) := Lib.hid (by omega)
        clear hle
        go_wp2
        go_quiet_grown (first | (go_at_call 187; exact Calls.grown_of (protoId_any _)))
        go_wp2
        go_roundw
        case rel => exact ⟨k, .inl (by omega), by go_num, HKM.out ▸ HA.out.next (HKM.out ▸ HX.out) rfl (fun z _ hz => by rw [show m + 1 - 1 = m by omega, HY.out] at hz; cases hz; exact HLE.out), HK.out.trans (keep_grown nq osq) (fun _ h => h.elim)⟩
        case measure => simp [intOf]; omega
    · have hd1 : decide (k < L.length) = false := by rw [decide_eq_false_iff_not]; omega
      clear hk hm
      go_wp2
      go_ret
      exact ⟨true, rfl, by simp only [true_iff]; exact rise_pair HA.out (by have := HKM.out; omega), HK.out⟩

set_option maxHeartbeats 8000000 in
theorem risesMob_any {w : World} {v : Value} {L : List (MobPM)} (h : Seen w 7 v L.length (flat mobpC L)) (_hl : L.length ≤ 1000000) :
    Calls Tryz.prog 287 #[v, .func (.func 190) #[] #[]] w fun e w' => ∃ b, e = .returned (.bool b) ∧ (b = true ↔ L.Pairwise (fun a b => a.id < b.id)) ∧ Keep (fun _ => False) w w' := by
  obtain ⟨_, a, cap, rfl, hc1, hc2, hcell⟩ := h
  unfold maxLen at hc2
  have HC := Lib.hid hcell
  have mixed := Tryz.mixedO
  clear hcell
  go_enter Tryz.func287, Tryz.ntmps287
  go_wp2
  go_loopw [5] (fun iv wr => RsR (fun x : MobPM => x.id) L w iv wr) (fun iv _ => L.length + 1 - (intOf iv).toNat)
  case atStart => exact ⟨0, .inr rfl, rfl, riseTo_one _ _, Keep.refl _ _⟩
  case round =>
    obtain ⟨m, hm, rfl, hr, hK⟩ := hrel.ex
    have HA := Lib.hid hr; have HK := Lib.hid hK
    clear hr hK hrel
    obtain ⟨k, hk⟩ : ∃ k, k = m + 1 := ⟨_, rfl⟩
    rw [← hk]
    have HKM := Lib.hid hk
    have hm2 : k ≤ L.length ∨ m = 0 := by omega
    by_cases hlt : k < L.length
    · have hd1 : decide (k < L.length) = true := by simpa using hlt
      obtain ⟨x, hx⟩ : ∃ x, L[k]? = some x := ⟨_, List.getElem?_eq_getElem hlt⟩
      obtain ⟨y, hy⟩ : ∃ y, L[m]? = some y := ⟨_, List.getElem?_eq_getElem (by omega)⟩
      obtain ⟨g1, off, rfl, hg, q⟩ := HC.out.resolve_left (by omega)
      have hrx := seen_range mobpC_lenA HK.out hg q hx
      have hry := seen_range mobpC_lenA HK.out hg q hy
      have e1 : (k : Int) - 1 = (m : Int) := by omega
      have hwm : IntKind.i64.wrap (m : Int) = (m : Int) := Cd.i64_nat m (by omega)
      have hml : m < L.length := by omega
      clear hk hm hm2
      have HX := Lib.hid hx
      have HY := Lib.hid hy
      have y0 := fun n os => cell_grown (w := wr) (a := ⟨g1, off + m * 7, none⟩) (v := .int .i64 y.id) (Nat.lt_of_lt_of_le hg HK.out.size) (hry 0 _ rfl) n os
      have y1 := fun n os => cell_grown (w := wr) (a := ⟨g1, off + m * 7 + 1, none⟩) (v := .string y.name) (Nat.lt_of_lt_of_le hg HK.out.size) (hry 1 _ rfl) n os
      have y2 := fun n os => cell_grown (w := wr) (a := ⟨g1, off + m * 7 + 2, none⟩) (v := .int .i64 y.home) (Nat.lt_of_lt_of_le hg HK.out.size) (hry 2 _ rfl) n os
      have y3 := fun n os => cell_grown (w := wr) (a := ⟨g1, off + m * 7 + 3, none⟩) (v := .int .i64 y.hp) (Nat.lt_of_lt_of_le hg HK.out.size) (hry 3 _ rfl) n os
      have y4 := fun n os => cell_grown (w := wr) (a := ⟨g1, off + m * 7 + 4, none⟩) (v := .int .i64 y.power) (Nat.lt_of_lt_of_le hg HK.out.size) (hry 4 _ rfl) n os
      have y5 := fun n os => cell_grown (w := wr) (a := ⟨g1, off + m * 7 + 5, none⟩) (v := .int .i64 y.xp) (Nat.lt_of_lt_of_le hg HK.out.size) (hry 5 _ rfl) n os
      have y6 := fun n os => cell_grown (w := wr) (a := ⟨g1, off + m * 7 + 6, none⟩) (v := .int .i64 y.gold) (Nat.lt_of_lt_of_le hg HK.out.size) (hry 6 _ rfl) n os
      have x0 := fun n os => cell_grown (w := wr) (a := ⟨g1, off + k * 7, none⟩) (v := .int .i64 x.id) (Nat.lt_of_lt_of_le hg HK.out.size) (hrx 0 _ rfl) n os
      have x1 := fun n os => cell_grown (w := wr) (a := ⟨g1, off + k * 7 + 1, none⟩) (v := .string x.name) (Nat.lt_of_lt_of_le hg HK.out.size) (hrx 1 _ rfl) n os
      have x2 := fun n os => cell_grown (w := wr) (a := ⟨g1, off + k * 7 + 2, none⟩) (v := .int .i64 x.home) (Nat.lt_of_lt_of_le hg HK.out.size) (hrx 2 _ rfl) n os
      have x3 := fun n os => cell_grown (w := wr) (a := ⟨g1, off + k * 7 + 3, none⟩) (v := .int .i64 x.hp) (Nat.lt_of_lt_of_le hg HK.out.size) (hrx 3 _ rfl) n os
      have x4 := fun n os => cell_grown (w := wr) (a := ⟨g1, off + k * 7 + 4, none⟩) (v := .int .i64 x.power) (Nat.lt_of_lt_of_le hg HK.out.size) (hrx 4 _ rfl) n os
      have x5 := fun n os => cell_grown (w := wr) (a := ⟨g1, off + k * 7 + 5, none⟩) (v := .int .i64 x.xp) (Nat.lt_of_lt_of_le hg HK.out.size) (hrx 5 _ rfl) n os
      have x6 := fun n os => cell_grown (w := wr) (a := ⟨g1, off + k * 7 + 6, none⟩) (v := .int .i64 x.gold) (Nat.lt_of_lt_of_le hg HK.out.size) (hrx 6 _ rfl) n os
      clear hrx hry hx hy q
      by_cases hle : x.id ≤ y.id
      · have hb : decide (x.id ≤ y.id) = true := by simpa using hle
        have HLE := Lib.hid hle
        clear hle
        go_wp2
        go_quiet_grown (first | (go_at_call 190; exact Calls.grown_of (mobId_any _)))
        go_wp2
        go_ret
        exact ⟨false, rfl, by simp only [Bool.false_eq_true, false_iff]; exact rise_npair (key := (fun x : MobPM => x.id)) (HKM.out ▸ HX.out) HY.out HLE.out, HK.out.trans (keep_grown nq osq) (fun _ h => h.elim)⟩
      · have hb : decide (x.id ≤ y.id) = false := by simpa using hle
        have HLE : Hid (y.id < x.id) := Lib.hid (by omega)
        clear hle
        go_wp2
        go_quiet_grown (first | (go_at_call 190; exact Calls.grown_of (mobId_any _)))
        go_wp2
        go_roundw
        case rel => exact ⟨k, .inl (by omega), by go_num, HKM.out ▸ HA.out.next (HKM.out ▸ HX.out) rfl (fun z _ hz => by rw [show m + 1 - 1 = m by omega, HY.out] at hz; cases hz; exact HLE.out), HK.out.trans (keep_grown nq osq) (fun _ h => h.elim)⟩
        case measure => simp [intOf]; omega
    · have hd1 : decide (k < L.length) = false := by rw [decide_eq_false_iff_not]; omega
      clear hk hm
      go_wp2
      go_ret
      exact ⟨true, rfl, by simp only [true_iff]; exact rise_pair HA.out (by have := HKM.out; omega), HK.out⟩

set_option maxHeartbeats 8000000 in
theorem risesRec_any {w : World} {v : Value} {L : List (RecM × SlV)} (h : Seen w 2 v L.length (flat recS L)) (_hl : L.length ≤ 1000000) :
    Calls Tryz.prog 289 #[v, .func (.func 193) #[] #[]] w fun e w' => ∃ b, e = .returned (.bool b) ∧ (b = true ↔ L.Pairwise (fun a b => a.1.out < b.1.out)) ∧ Keep (fun _ => False) w w' := by
  obtain ⟨_, a, cap, rfl, hc1, hc2, hcell⟩ := h
  unfold maxLen at hc2
  have HC := Lib.hid hcell
  have mixed := Tryz.mixedO
  clear hcell
  go_enter Tryz.func289, Tryz.ntmps289
  go_wp2
  go_loopw [5] (fun iv wr => RsR (fun x : RecM × SlV => x.1.out) L w iv wr) (fun iv _ => L.length + 1 - (intOf iv).toNat)
  case atStart => exact ⟨0, .inr rfl, rfl, riseTo_one _ _, Keep.refl _ _⟩
  case round =>
    obtain ⟨m, hm, rfl, hr, hK⟩ := hrel.ex
    have HA := Lib.hid hr; have HK := Lib.hid hK
    clear hr hK hrel
    obtain ⟨k, hk⟩ : ∃ k, k = m + 1 := ⟨_, rfl⟩
    rw [← hk]
    have HKM := Lib.hid hk
    have hm2 : k ≤ L.length ∨ m = 0 := by omega
    by_cases hlt : k < L.length
    · have hd1 : decide (k < L.length) = true := by simpa using hlt
      obtain ⟨x, hx⟩ : ∃ x, L[k]? = some x := ⟨_, List.getElem?_eq_getElem hlt⟩
      obtain ⟨y, hy⟩ : ∃ y, L[m]? = some y := ⟨_, List.getElem?_eq_getElem (by omega)⟩
      obtain ⟨g1, off, rfl, hg, q⟩ := HC.out.resolve_left (by omega)
      have hrx := seen_range recS_lenA HK.out hg q hx
      have hry := seen_range recS_lenA HK.out hg q hy
      have e1 : (k : Int) - 1 = (m : Int) := by omega
      have hwm : IntKind.i64.wrap (m : Int) = (m : Int) := Cd.i64_nat m (by omega)
      have hml : m < L.length := by omega
      clear hk hm hm2
      have HX := Lib.hid hx
      have HY := Lib.hid hy
      have y0 := fun n os => cell_grown (w := wr) (a := ⟨g1, off + m * 2, none⟩) (v := .int .i64 y.1.out) (Nat.lt_of_lt_of_le hg HK.out.size) (hry 0 _ rfl) n os
      have y1 := fun n os => cell_grown (w := wr) (a := ⟨g1, off + m * 2 + 1, none⟩) (v := .slice y.2.a y.2.n y.2.c) (Nat.lt_of_lt_of_le hg HK.out.size) (hry 1 _ rfl) n os
      have x0 := fun n os => cell_grown (w := wr) (a := ⟨g1, off + k * 2, none⟩) (v := .int .i64 x.1.out) (Nat.lt_of_lt_of_le hg HK.out.size) (hrx 0 _ rfl) n os
      have x1 := fun n os => cell_grown (w := wr) (a := ⟨g1, off + k * 2 + 1, none⟩) (v := .slice x.2.a x.2.n x.2.c) (Nat.lt_of_lt_of_le hg HK.out.size) (hrx 1 _ rfl) n os
      clear hrx hry hx hy q
      by_cases hle : x.1.out ≤ y.1.out
      · have hb : decide (x.1.out ≤ y.1.out) = true := by simpa using hle
        have HLE := Lib.hid hle
        clear hle
        go_wp2
        go_quiet_grown (first | (go_at_call 193; exact Calls.grown_of (recipeId_any _)))
        go_wp2
        go_ret
        exact ⟨false, rfl, by simp only [Bool.false_eq_true, false_iff]; exact rise_npair (key := (fun x : RecM × SlV => x.1.out)) (HKM.out ▸ HX.out) HY.out HLE.out, HK.out.trans (keep_grown nq osq) (fun _ h => h.elim)⟩
      · have hb : decide (x.1.out ≤ y.1.out) = false := by simpa using hle
        have HLE : Hid (y.1.out < x.1.out) := Lib.hid (by omega)
        clear hle
        go_wp2
        go_quiet_grown (first | (go_at_call 193; exact Calls.grown_of (recipeId_any _)))
        go_wp2
        go_roundw
        case rel => exact ⟨k, .inl (by omega), by go_num, HKM.out ▸ HA.out.next (HKM.out ▸ HX.out) rfl (fun z _ hz => by rw [show m + 1 - 1 = m by omega, HY.out] at hz; cases hz; exact HLE.out), HK.out.trans (keep_grown nq osq) (fun _ h => h.elim)⟩
        case measure => simp [intOf]; omega
    · have hd1 : decide (k < L.length) = false := by rw [decide_eq_false_iff_not]; omega
      clear hk hm
      go_wp2
      go_ret
      exact ⟨true, rfl, by simp only [true_iff]; exact rise_pair HA.out (by have := HKM.out; omega), HK.out⟩

set_option maxHeartbeats 8000000 in
theorem risesQuest_any {w : World} {v : Value} {L : List (QuestM)} (h : Seen w 5 v L.length (flat questC L)) (_hl : L.length ≤ 1000000) :
    Calls Tryz.prog 292 #[v, .func (.func 196) #[] #[]] w fun e w' => ∃ b, e = .returned (.bool b) ∧ (b = true ↔ L.Pairwise (fun a b => a.id < b.id)) ∧ Keep (fun _ => False) w w' := by
  obtain ⟨_, a, cap, rfl, hc1, hc2, hcell⟩ := h
  unfold maxLen at hc2
  have HC := Lib.hid hcell
  have mixed := Tryz.mixedO
  clear hcell
  go_enter Tryz.func292, Tryz.ntmps292
  go_wp2
  go_loopw [5] (fun iv wr => RsR (fun x : QuestM => x.id) L w iv wr) (fun iv _ => L.length + 1 - (intOf iv).toNat)
  case atStart => exact ⟨0, .inr rfl, rfl, riseTo_one _ _, Keep.refl _ _⟩
  case round =>
    obtain ⟨m, hm, rfl, hr, hK⟩ := hrel.ex
    have HA := Lib.hid hr; have HK := Lib.hid hK
    clear hr hK hrel
    obtain ⟨k, hk⟩ : ∃ k, k = m + 1 := ⟨_, rfl⟩
    rw [← hk]
    have HKM := Lib.hid hk
    have hm2 : k ≤ L.length ∨ m = 0 := by omega
    by_cases hlt : k < L.length
    · have hd1 : decide (k < L.length) = true := by simpa using hlt
      obtain ⟨x, hx⟩ : ∃ x, L[k]? = some x := ⟨_, List.getElem?_eq_getElem hlt⟩
      obtain ⟨y, hy⟩ : ∃ y, L[m]? = some y := ⟨_, List.getElem?_eq_getElem (by omega)⟩
      obtain ⟨g1, off, rfl, hg, q⟩ := HC.out.resolve_left (by omega)
      have hrx := seen_range questC_lenA HK.out hg q hx
      have hry := seen_range questC_lenA HK.out hg q hy
      have e1 : (k : Int) - 1 = (m : Int) := by omega
      have hwm : IntKind.i64.wrap (m : Int) = (m : Int) := Cd.i64_nat m (by omega)
      have hml : m < L.length := by omega
      clear hk hm hm2
      have HX := Lib.hid hx
      have HY := Lib.hid hy
      have y0 := fun n os => cell_grown (w := wr) (a := ⟨g1, off + m * 5, none⟩) (v := .int .i64 y.id) (Nat.lt_of_lt_of_le hg HK.out.size) (hry 0 _ rfl) n os
      have y1 := fun n os => cell_grown (w := wr) (a := ⟨g1, off + m * 5 + 1, none⟩) (v := .int .i64 y.item) (Nat.lt_of_lt_of_le hg HK.out.size) (hry 1 _ rfl) n os
      have y2 := fun n os => cell_grown (w := wr) (a := ⟨g1, off + m * 5 + 2, none⟩) (v := .int .i64 y.count) (Nat.lt_of_lt_of_le hg HK.out.size) (hry 2 _ rfl) n os
      have y3 := fun n os => cell_grown (w := wr) (a := ⟨g1, off + m * 5 + 3, none⟩) (v := .int .i64 y.gold) (Nat.lt_of_lt_of_le hg HK.out.size) (hry 3 _ rfl) n os
      have y4 := fun n os => cell_grown (w := wr) (a := ⟨g1, off + m * 5 + 4, none⟩) (v := .int .i64 y.reward) (Nat.lt_of_lt_of_le hg HK.out.size) (hry 4 _ rfl) n os
      have x0 := fun n os => cell_grown (w := wr) (a := ⟨g1, off + k * 5, none⟩) (v := .int .i64 x.id) (Nat.lt_of_lt_of_le hg HK.out.size) (hrx 0 _ rfl) n os
      have x1 := fun n os => cell_grown (w := wr) (a := ⟨g1, off + k * 5 + 1, none⟩) (v := .int .i64 x.item) (Nat.lt_of_lt_of_le hg HK.out.size) (hrx 1 _ rfl) n os
      have x2 := fun n os => cell_grown (w := wr) (a := ⟨g1, off + k * 5 + 2, none⟩) (v := .int .i64 x.count) (Nat.lt_of_lt_of_le hg HK.out.size) (hrx 2 _ rfl) n os
      have x3 := fun n os => cell_grown (w := wr) (a := ⟨g1, off + k * 5 + 3, none⟩) (v := .int .i64 x.gold) (Nat.lt_of_lt_of_le hg HK.out.size) (hrx 3 _ rfl) n os
      have x4 := fun n os => cell_grown (w := wr) (a := ⟨g1, off + k * 5 + 4, none⟩) (v := .int .i64 x.reward) (Nat.lt_of_lt_of_le hg HK.out.size) (hrx 4 _ rfl) n os
      clear hrx hry hx hy q
      by_cases hle : x.id ≤ y.id
      · have hb : decide (x.id ≤ y.id) = true := by simpa using hle
        have HLE := Lib.hid hle
        clear hle
        go_wp2
        go_quiet_grown (first | (go_at_call 196; exact Calls.grown_of (questId_any _)))
        go_wp2
        go_ret
        exact ⟨false, rfl, by simp only [Bool.false_eq_true, false_iff]; exact rise_npair (key := (fun x : QuestM => x.id)) (HKM.out ▸ HX.out) HY.out HLE.out, HK.out.trans (keep_grown nq osq) (fun _ h => h.elim)⟩
      · have hb : decide (x.id ≤ y.id) = false := by simpa using hle
        have HLE : Hid (y.id < x.id) := Lib.hid (by omega)
        clear hle
        go_wp2
        go_quiet_grown (first | (go_at_call 196; exact Calls.grown_of (questId_any _)))
        go_wp2
        go_roundw
        case rel => exact ⟨k, .inl (by omega), by go_num, HKM.out ▸ HA.out.next (HKM.out ▸ HX.out) rfl (fun z _ hz => by rw [show m + 1 - 1 = m by omega, HY.out] at hz; cases hz; exact HLE.out), HK.out.trans (keep_grown nq osq) (fun _ h => h.elim)⟩
        case measure => simp [intOf]; omega
    · have hd1 : decide (k < L.length) = false := by rw [decide_eq_false_iff_not]; omega
      clear hk hm
      go_wp2
      go_ret
      exact ⟨true, rfl, by simp only [true_iff]; exact rise_pair HA.out (by have := HKM.out; omega), HK.out⟩

set_option maxHeartbeats 8000000 in
theorem risesShop_any {w : World} {v : Value} {L : List (ShopM × SlV)} (h : Seen w 3 v L.length (flat shopS L)) (_hl : L.length ≤ 1000000) :
    Calls Tryz.prog 293 #[v, .func (.func 199) #[] #[]] w fun e w' => ∃ b, e = .returned (.bool b) ∧ (b = true ↔ L.Pairwise (fun a b => a.1.room < b.1.room)) ∧ Keep (fun _ => False) w w' := by
  obtain ⟨_, a, cap, rfl, hc1, hc2, hcell⟩ := h
  unfold maxLen at hc2
  have HC := Lib.hid hcell
  have mixed := Tryz.mixedO
  clear hcell
  go_enter Tryz.func293, Tryz.ntmps293
  go_wp2
  go_loopw [5] (fun iv wr => RsR (fun x : ShopM × SlV => x.1.room) L w iv wr) (fun iv _ => L.length + 1 - (intOf iv).toNat)
  case atStart => exact ⟨0, .inr rfl, rfl, riseTo_one _ _, Keep.refl _ _⟩
  case round =>
    obtain ⟨m, hm, rfl, hr, hK⟩ := hrel.ex
    have HA := Lib.hid hr; have HK := Lib.hid hK
    clear hr hK hrel
    obtain ⟨k, hk⟩ : ∃ k, k = m + 1 := ⟨_, rfl⟩
    rw [← hk]
    have HKM := Lib.hid hk
    have hm2 : k ≤ L.length ∨ m = 0 := by omega
    by_cases hlt : k < L.length
    · have hd1 : decide (k < L.length) = true := by simpa using hlt
      obtain ⟨x, hx⟩ : ∃ x, L[k]? = some x := ⟨_, List.getElem?_eq_getElem hlt⟩
      obtain ⟨y, hy⟩ : ∃ y, L[m]? = some y := ⟨_, List.getElem?_eq_getElem (by omega)⟩
      obtain ⟨g1, off, rfl, hg, q⟩ := HC.out.resolve_left (by omega)
      have hrx := seen_range shopS_lenA HK.out hg q hx
      have hry := seen_range shopS_lenA HK.out hg q hy
      have e1 : (k : Int) - 1 = (m : Int) := by omega
      have hwm : IntKind.i64.wrap (m : Int) = (m : Int) := Cd.i64_nat m (by omega)
      have hml : m < L.length := by omega
      clear hk hm hm2
      have HX := Lib.hid hx
      have HY := Lib.hid hy
      have y0 := fun n os => cell_grown (w := wr) (a := ⟨g1, off + m * 3, none⟩) (v := .int .i64 y.1.room) (Nat.lt_of_lt_of_le hg HK.out.size) (hry 0 _ rfl) n os
      have y1 := fun n os => cell_grown (w := wr) (a := ⟨g1, off + m * 3 + 1, none⟩) (v := .int .i64 y.1.till) (Nat.lt_of_lt_of_le hg HK.out.size) (hry 1 _ rfl) n os
      have y2 := fun n os => cell_grown (w := wr) (a := ⟨g1, off + m * 3 + 2, none⟩) (v := .slice y.2.a y.2.n y.2.c) (Nat.lt_of_lt_of_le hg HK.out.size) (hry 2 _ rfl) n os
      have x0 := fun n os => cell_grown (w := wr) (a := ⟨g1, off + k * 3, none⟩) (v := .int .i64 x.1.room) (Nat.lt_of_lt_of_le hg HK.out.size) (hrx 0 _ rfl) n os
      have x1 := fun n os => cell_grown (w := wr) (a := ⟨g1, off + k * 3 + 1, none⟩) (v := .int .i64 x.1.till) (Nat.lt_of_lt_of_le hg HK.out.size) (hrx 1 _ rfl) n os
      have x2 := fun n os => cell_grown (w := wr) (a := ⟨g1, off + k * 3 + 2, none⟩) (v := .slice x.2.a x.2.n x.2.c) (Nat.lt_of_lt_of_le hg HK.out.size) (hrx 2 _ rfl) n os
      clear hrx hry hx hy q
      by_cases hle : x.1.room ≤ y.1.room
      · have hb : decide (x.1.room ≤ y.1.room) = true := by simpa using hle
        have HLE := Lib.hid hle
        clear hle
        go_wp2
        go_quiet_grown (first | (go_at_call 199; exact Calls.grown_of (shopId_any _)))
        go_wp2
        go_ret
        exact ⟨false, rfl, by simp only [Bool.false_eq_true, false_iff]; exact rise_npair (key := (fun x : ShopM × SlV => x.1.room)) (HKM.out ▸ HX.out) HY.out HLE.out, HK.out.trans (keep_grown nq osq) (fun _ h => h.elim)⟩
      · have hb : decide (x.1.room ≤ y.1.room) = false := by simpa using hle
        have HLE : Hid (y.1.room < x.1.room) := Lib.hid (by omega)
        clear hle
        go_wp2
        go_quiet_grown (first | (go_at_call 199; exact Calls.grown_of (shopId_any _)))
        go_wp2
        go_roundw
        case rel => exact ⟨k, .inl (by omega), by go_num, HKM.out ▸ HA.out.next (HKM.out ▸ HX.out) rfl (fun z _ hz => by rw [show m + 1 - 1 = m by omega, HY.out] at hz; cases hz; exact HLE.out), HK.out.trans (keep_grown nq osq) (fun _ h => h.elim)⟩
        case measure => simp [intOf]; omega
    · have hd1 : decide (k < L.length) = false := by rw [decide_eq_false_iff_not]; omega
      clear hk hm
      go_wp2
      go_ret
      exact ⟨true, rfl, by simp only [true_iff]; exact rise_pair HA.out (by have := HKM.out; omega), HK.out⟩

set_option maxHeartbeats 8000000 in
theorem risesInt_any {w : World} {v : Value} {L : List (Int)} (h : Seen w 1 v L.length (flat icellC L)) (_hl : L.length ≤ 1000000) :
    Calls Tryz.prog 295 #[v, .func (.func 296) #[] #[]] w fun e w' => ∃ b, e = .returned (.bool b) ∧ (b = true ↔ L.Pairwise (fun a b => a < b)) ∧ Keep (fun _ => False) w w' := by
  obtain ⟨_, a, cap, rfl, hc1, hc2, hcell⟩ := h
  unfold maxLen at hc2
  have HC := Lib.hid hcell
  have mixed := Tryz.mixedO
  clear hcell
  go_enter Tryz.func295, Tryz.ntmps295
  go_wp2
  go_loopw [5] (fun iv wr => RsR (fun x : Int => x) L w iv wr) (fun iv _ => L.length + 1 - (intOf iv).toNat)
  case atStart => exact ⟨0, .inr rfl, rfl, riseTo_one _ _, Keep.refl _ _⟩
  case round =>
    obtain ⟨m, hm, rfl, hr, hK⟩ := hrel.ex
    have HA := Lib.hid hr; have HK := Lib.hid hK
    clear hr hK hrel
    obtain ⟨k, hk⟩ : ∃ k, k = m + 1 := ⟨_, rfl⟩
    rw [← hk]
    have HKM := Lib.hid hk
    have hm2 : k ≤ L.length ∨ m = 0 := by omega
    by_cases hlt : k < L.length
    · have hd1 : decide (k < L.length) = true := by simpa using hlt
      obtain ⟨x, hx⟩ : ∃ x, L[k]? = some x := ⟨_, List.getElem?_eq_getElem hlt⟩
      obtain ⟨y, hy⟩ : ∃ y, L[m]? = some y := ⟨_, List.getElem?_eq_getElem (by omega)⟩
      obtain ⟨g1, off, rfl, hg, q⟩ := HC.out.resolve_left (by omega)
      have hrx := seen_range icellC_lenA HK.out hg q hx
      have hry := seen_range icellC_lenA HK.out hg q hy
      have e1 : (k : Int) - 1 = (m : Int) := by omega
      have hwm : IntKind.i64.wrap (m : Int) = (m : Int) := Cd.i64_nat m (by omega)
      have hml : m < L.length := by omega
      clear hk hm hm2
      have HX := Lib.hid hx
      have HY := Lib.hid hy
      have y0 := fun n os => cell_grown (w := wr) (a := ⟨g1, off + m, none⟩) (v := .int .i64 y) (Nat.lt_of_lt_of_le hg HK.out.size) ((by have := hry 0 (.int .i64 y) rfl; rwa [Nat.mul_one, Nat.add_zero] at this)) n os
      have x0 := fun n os => cell_grown (w := wr) (a := ⟨g1, off + k, none⟩) (v := .int .i64 x) (Nat.lt_of_lt_of_le hg HK.out.size) ((by have := hrx 0 (.int .i64 x) rfl; rwa [Nat.mul_one, Nat.add_zero] at this)) n os
      clear hrx hry hx hy q
      by_cases hle : x ≤ y
      · have hb : decide (x ≤ y) = true := by simpa using hle
        have HLE := Lib.hid hle
        clear hle
        go_wp2
        go_quiet_grown (first | (go_at_call 296; exact Calls.grown_of (selfI_any _)))
        go_wp2
        go_ret
        exact ⟨false, rfl, by simp only [Bool.false_eq_true, false_iff]; exact rise_npair (key := (fun x : Int => x)) (HKM.out ▸ HX.out) HY.out HLE.out, HK.out.trans (keep_grown nq osq) (fun _ h => h.elim)⟩
      · have hb : decide (x ≤ y) = false := by simpa using hle
        have HLE : Hid (y < x) := Lib.hid (by omega)
        clear hle
        go_wp2
        go_quiet_grown (first | (go_at_call 296; exact Calls.grown_of (selfI_any _)))
        go_wp2
        go_roundw
        case rel => exact ⟨k, .inl (by omega), by go_num, HKM.out ▸ HA.out.next (HKM.out ▸ HX.out) rfl (fun z _ hz => by rw [show m + 1 - 1 = m by omega, HY.out] at hz; cases hz; exact HLE.out), HK.out.trans (keep_grown nq osq) (fun _ h => h.elim)⟩
        case measure => simp [intOf]; omega
    · have hd1 : decide (k < L.length) = false := by rw [decide_eq_false_iff_not]; omega
      clear hk hm
      go_wp2
      go_ret
      exact ⟨true, rfl, by simp only [true_iff]; exact rise_pair HA.out (by have := HKM.out; omega), HK.out⟩

theorem lessI_any {w : World} (x y : Int) : Calls Tryz.prog 348 #[.int .i64 x, .int .i64 y] w fun e w' => e = .returned (.bool (decide (x < y))) ∧ w' = w := by
  go_enter Tryz.func348, Tryz.ntmps348
  go_wp2_with (go_at_call 365; (with_reducible refine (nanI_any _).mono ?_); rintro e w9 ⟨rfl, rfl⟩)
  all_goals go_ret
  all_goals exact ⟨by simp, rfl⟩
/-- From place i on numbers do not fall. -/
structure IsR (L : List Int) (w0 : World) (iv : Value) (wr : World) : Prop where
  ex : ∃ i : Int, iv = .int .i64 i ∧ -1 ≤ i ∧ i < L.length ∧ (∀ (j : Nat) (x y : Int), i < ((j + 1 : Nat) : Int) → L[j]? = some y → L[j + 1]? = some x → y ≤ x) ∧ Keep (fun _ => False) w0 wr
theorem adj_pair {L : List Int} (h : ∀ (j : Nat) (x y : Int), L[j]? = some y → L[j + 1]? = some x → y ≤ x) : L.Pairwise (fun a b => a ≤ b) := by
  rw [List.pairwise_iff_getElem]
  intro i j hi hj hij
  induction j with
  | zero => omega
  | succ j ih =>
    have h1 := h j L[j + 1] L[j] (List.getElem?_eq_getElem (by omega)) (List.getElem?_eq_getElem hj)
    by_cases e : i = j
    · subst e; exact h1
    · have := ih (by omega) (by omega); omega
theorem adj_npair {L : List Int} {j : Nat} {x y : Int} (hy : L[j]? = some y) (hx : L[j + 1]? = some x) (h : x < y) : ¬ L.Pairwise (fun a b => a ≤ b) := fun hp => by
  rw [List.pairwise_iff_getElem] at hp
  obtain ⟨h1, e1⟩ := List.getElem?_eq_some_iff.1 hy
  obtain ⟨h2, e2⟩ := List.getElem?_eq_some_iff.1 hx
  have := hp j (j + 1) h1 h2 (by omega)
  rw [e1, e2] at this
  omega
set_option maxHeartbeats 4000000 in
theorem isSorted_any {w : World} {v : Value} {L : List Int} (h : Seen w 1 v L.length (icells L)) (hl : L.length ≤ 1000000) :
    Calls Tryz.prog 291 #[v] w fun e w' => ∃ b, e = .returned (.bool b) ∧ (b = true ↔ L.Pairwise (fun a b => a ≤ b)) ∧ Keep (fun _ => False) w w' := by
  obtain ⟨_, a, cap, rfl, hc1, hc2, hcell⟩ := h
  unfold maxLen at hc2
  have HC := Lib.hid hcell
  have mixed := Tryz.mixedO
  have hw0 : IntKind.i64.wrap ((L.length : Int) - 1) = (L.length : Int) - 1 := by
    rcases Nat.eq_zero_or_pos L.length with h0 | h0
    · rw [h0]; rfl
    · have := Cd.i64_nat (L.length - 1) (by omega)
      rwa [show ((L.length - 1 : Nat) : Int) = (L.length : Int) - 1 by omega] at this
  clear hcell
  go_enter Tryz.func291, Tryz.ntmps291
  go_wp2
  go_loopw [3] (fun iv wr => IsR L w iv wr) (fun iv _ => (intOf iv).toNat)
  case atStart => exact ⟨(L.length : Int) - 1, rfl, by omega, by omega, fun j x y hj _ hx => by have := (List.getElem?_eq_some_iff.1 hx).1; omega, Keep.refl _ _⟩
  case round =>
    obtain ⟨i, rfl, hi1, hi2, hA, hK⟩ := hrel.ex
    have HA := Lib.hid hA; have HK := Lib.hid hK
    clear hA hK hrel hw0
    by_cases hpos : 0 < i
    · have hd1 : decide (0 < i) = true := by simpa using hpos
      obtain ⟨m, hm⟩ : ∃ m : Nat, i = ((m + 1 : Nat) : Int) := ⟨i.toNat - 1, by omega⟩
      subst hm
      obtain ⟨k, hk⟩ : ∃ k, k = m + 1 := ⟨_, rfl⟩
      rw [← hk] at hd1 hi2 ⊢
      have HKM := Lib.hid hk
      have hlt : k < L.length := by omega
      obtain ⟨x, hx⟩ : ∃ x, L[k]? = some x := ⟨_, List.getElem?_eq_getElem hlt⟩
      obtain ⟨y, hy⟩ : ∃ y, L[m]? = some y := ⟨_, List.getElem?_eq_getElem (by omega)⟩
      obtain ⟨g1, off, rfl, hg, q⟩ := HC.out.resolve_left (by omega)
      have y0 := fun n os => cell_grown (w := wr) (a := ⟨g1, off + m, none⟩) (v := .int .i64 y) (Nat.lt_of_lt_of_le hg HK.out.size) ((HK.out.cell hg (fun h => h) _).trans (q m _ (icells_get hy))) n os
      have x0 := fun n os => cell_grown (w := wr) (a := ⟨g1, off + k, none⟩) (v := .int .i64 x) (Nat.lt_of_lt_of_le hg HK.out.size) ((HK.out.cell hg (fun h => h) _).trans (q k _ (icells_get hx))) n os
      have e1 : (k : Int) - 1 = (m : Int) := by omega
      have hwm : IntKind.i64.wrap (m : Int) = (m : Int) := Cd.i64_nat m (by omega)
      have hml : m < L.length := by omega
      have HX := Lib.hid hx
      have HY := Lib.hid hy
      clear hk hx hy q hi1 hi2 hpos
      by_cases hle : x < y
      · have HLS : Hid (∀ w : World, Calls Tryz.prog 348 #[.int .i64 x, .int .i64 y] w fun e w' => e = .returned (.bool true) ∧ w' = w) := Lib.hid (fun w => by have := lessI_any (w := w) x y; rwa [show decide (x < y) = true by simpa using hle] at this)
        have HLE := Lib.hid hle
        clear hle
        go_wp2
        go_quiet_grown (first | (go_at_call 348; exact Calls.grown_of ((HLS.out _).mono fun _ _ hh => ⟨hh.1, 0, #[], by rw [hh.2, grow_empty]; rfl⟩)))
        go_wp2
        go_ret
        exact ⟨false, rfl, by simp only [Bool.false_eq_true, false_iff]; exact adj_npair HY.out (HKM.out ▸ HX.out) HLE.out, HK.out.trans (keep_grown nq osq) (fun _ h => h.elim)⟩
      · have HLS : Hid (∀ w : World, Calls Tryz.prog 348 #[.int .i64 x, .int .i64 y] w fun e w' => e = .returned (.bool false) ∧ w' = w) := Lib.hid (fun w => by have := lessI_any (w := w) x y; rwa [show decide (x < y) = false by simpa using hle] at this)
        have HLE : Hid (y ≤ x) := Lib.hid (by omega)
        clear hle
        go_wp2
        go_quiet_grown (first | (go_at_call 348; exact Calls.grown_of ((HLS.out _).mono fun _ _ hh => ⟨hh.1, 0, #[], by rw [hh.2, grow_empty]; rfl⟩)))
        go_wp2
        go_roundw
        case rel =>
          refine ⟨(m : Int), rfl, by omega, by omega, fun j x' y' hj hy' hx' => ?_, HK.out.trans (keep_grown nq osq) (fun _ h => h.elim)⟩
          by_cases e : j = m
          · subst e
            have h1 := HY.out
            have h2 := HX.out
            rw [HKM.out] at h2
            rw [h1] at hy'; rw [h2] at hx'
            cases hy'; cases hx'
            exact HLE.out
          · exact HA.out j x' y' (by omega) hy' hx'
        case measure => have := HKM.out; simp [intOf]; omega
    · have hd1 : decide (0 < i) = false := by simpa using hpos
      have HLE0 : Hid (i ≤ 0) := Lib.hid (by omega)
      clear hpos
      go_wp2
      go_ret
      exact ⟨true, rfl, by simp only [true_iff]; exact adj_pair (fun j x y hy hx => HA.out j x y (by have := HLE0.out; omega) hy hx), HK.out⟩
end Go.Proofs.YtheaghgockafmaaGreat.Wd
