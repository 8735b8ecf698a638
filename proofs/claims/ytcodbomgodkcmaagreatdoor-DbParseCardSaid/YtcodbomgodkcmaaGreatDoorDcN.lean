/- World files: the law's three words at its head. -/
import Derived.Test.YtcodbomgodkcmaaGreatDoorDcK
import Derived.Test.YtcodbomgodkcmaaGreatDoorDcM
import Derived.Test.YtcodbomgodkcmaaGreatDoorDbT
namespace Go.Proofs.YtcodbomgodkcmaaGreatDoor.Wd
open Go.RowKit Go.Maps Go.Proofs.YtcodbomgodkcmaaGreatDoor Go.Proofs.YtcodbomgodkcmaaGreatDoor.Lin Go.Sort
set_option maxRecDepth 100000

abbrev bt1 : ByteArray := ⟨#[35, 32, 97, 32, 119, 111, 114, 108, 100, 10, 114, 111, 111, 109, 32, 49, 32, 121, 97, 114, 100, 32, 112, 108, 97, 105, 110, 32, 48, 32, 48, 32, 48, 32, 48, 32, 48, 32, 48, 32, 48, 10]⟩
abbrev bt2 : ByteArray := ⟨#[114, 111, 111, 109, 32, 49, 32, 121, 97, 114, 100, 32, 112, 108, 97, 105, 110, 32, 48, 32, 50, 32, 48, 32, 48, 32, 48, 32, 48, 32, 48]⟩
abbrev bt3 : ByteArray := ⟨#[10, 114, 111, 111, 109, 32, 111, 110, 101]⟩
abbrev yardB : ByteArray := ⟨#[121, 97, 114, 100]⟩
def yard1 : RoomM := ⟨1, yardB, 0, 0, 0, 0, 0, 0, 0, 0⟩
def yard2 : RoomM := ⟨1, yardB, 0, 0, 2, 0, 0, 0, 0, 0⟩
theorem pt1 : parseU 0 (linesL bt1.data.toList) noDb = .inr (noDbR [yard1]) := by kernel_rfl
theorem pt2 : parseU 0 (linesL bt2.data.toList) noDb = .inr (noDbR [yard2]) := by kernel_rfl
theorem pt3 : parseU 0 (linesL bt3.data.toList) noDb = .inl 2 := by kernel_rfl
theorem ck1 : checkF (noDbR [yard1]) = 0 := by rw [check_dec]; kernel_rfl
theorem ck2 : checkF (noDbR [yard2]) = 6 := by rw [check_dec]; kernel_rfl
theorem one_sorted {r : RoomM} {M : DbM} (h : SortDb (noDbR [r]) M) : sortN M = noDbR [r] := by
  obtain ⟨e, hs⟩ := SortDb.rooms_only h
  have : M.rooms = [r] := List.perm_singleton.1 hs.1
  rw [this] at e
  rw [e]; rfl

theorem T12.keep0 {w w' : World} (h : T12 w) (k : Keep (fun _ => False) w w') : T12 w' := ((T12.base (B := fun _ => False) h (fun _ h => h.elim)).keep k (fun _ h => h.elim)).t

theorem parse1_any {w : World} (hT : T12 w) : Calls Tryz.prog 8 #[.string bt1] w fun e w' => ∃ d, e = .returned (.tuple #[.pointer (some ⟨d, 0, none⟩), .nilIface]) ∧ DbAt (fun _ => True) w' d 0 (noDbR [yard1]) ∧ Keep (fun _ => False) w w' := by
  refine (parse_any hT bt1 (by decide)).mono fun e w' h => ?_
  rw [pt1] at h
  obtain ⟨hk, ⟨k, b, h, _⟩ | ⟨D, M, h, hs, hc, _⟩ | ⟨D, M, d, v1, v2, v3, v4, v5, v6, rr, ss, h, hs, hc, he, ho⟩⟩ := h
  · cases h
  · cases h; rw [one_sorted hs] at hc; exact absurd ck1 hc
  · cases h; rw [one_sorted hs] at ho; exact ⟨d, he, (ho.bound (P := fun _ => True) (fun _ _ => trivial) trivial).v.at, hk⟩
theorem parse2_any {w : World} (hT : T12 w) : Calls Tryz.prog 8 #[.string bt2] w fun e w' => e = .returned (.tuple #[.pointer none, apiErr 6]) ∧ Keep (fun _ => False) w w' := by
  refine (parse_any hT bt2 (by decide)).mono fun e w' h => ?_
  rw [pt2] at h
  obtain ⟨hk, ⟨k, b, h, _⟩ | ⟨D, M, h, hs, hc, he⟩ | ⟨D, M, d, v1, v2, v3, v4, v5, v6, rr, ss, h, hs, hc, he, ho⟩⟩ := h
  · cases h
  · cases h; rw [one_sorted hs, ck2] at he; exact ⟨he, hk⟩
  · cases h; rw [one_sorted hs, ck2] at hc; cases hc
theorem parse3_any {w : World} (hT : T12 w) : Calls Tryz.prog 8 #[.string bt3] w fun e w' => ∃ b, e = .returned (.tuple #[.pointer none, lineErr b]) ∧ LErr w' b 2 ∧ Keep (fun _ => False) w w' := by
  refine (parse_any hT bt3 (by decide)).mono fun e w' h => ?_
  rw [pt3] at h
  obtain ⟨hk, ⟨k, b, h, he, hb⟩ | ⟨D, M, h, _⟩ | ⟨D, M, d, v1, v2, v3, v4, v5, v6, rr, ss, h, _⟩⟩ := h
  · cases h; exact ⟨b, he, hb, hk⟩
  · cases h
  · cases h
theorem room1_any {w : World} {d : Nat} (h : DbAt (fun _ => True) w d 0 (noDbR [yard1])) : Calls Tryz.prog 15 #[.pointer (some ⟨d, 0, none⟩), .int .i64 1] w fun e w' => e = .returned (.tuple #[.agg (roomC yard1).toArray, .bool true]) ∧ Keep (fun _ => False) w w' :=
  (RoomF_any h 1).mono fun e w' hh => by
    refine ⟨?_, hh.2⟩
    rcases hh.1 with ⟨k, x, hf, hx, he⟩ | ⟨hf, _⟩
    · have : k = 0 := by
        have h0 : findI (fun x : RoomM => x.id == 1) (noDbR [yard1]).rooms = 0 := by decide
        rw [h0] at hf; omega
      subst this
      cases hx
      exact he
    · have h0 : findI (fun x : RoomM => x.id == 1) (noDbR [yard1]).rooms = 0 := by decide
      rw [h0] at hf; cases hf

/-- errors.As, by what it leaves. -/
theorem as_line {w : World} {r tb : Nat} {old : Value} (hg : w.cell? ⟨0, 0, none⟩ = some (.iface 146 (.agg #[.pointer (some ⟨Tryz.prog.globals.size, 26, none⟩)]))) (ht : w.heap[tb]? = some (.cells #[old] 31 (0, 0))) :
    Calls Tryz.prog 10 #[lineErr r, .iface 33 (.pointer (some ⟨tb, 0, none⟩))] w fun e w' => e = .returned (.bool true) ∧ w'.cell? ⟨tb, 0, none⟩ = some (.pointer (some ⟨r, 0, none⟩)) ∧ Keep (fun b => b = tb) w w' := by
  have ht0 : w.cell? ⟨tb, 0, none⟩ = some old := (cell_of_row w tb 0 _ _ _ ht).trans rfl
  refine (as_hit ⟨r, 0, none⟩ ⟨tb, 0, none⟩ old w hg ht0 (frozen_of_row _ _ _ _ _ ht)).mono fun e w' hh => ?_
  obtain ⟨rfl, rfl⟩ := hh
  have hlt := cell_lt ht0
  have hk : ∀ o1 o2 o3 o4, Keep (fun b => b = tb) w ((((w.alloc o1).alloc o2).alloc o3).alloc o4) := fun o1 o2 o3 o4 => ((((Keep.refl _ w).alloc o1).alloc o2).alloc o3).alloc o4
  refine ⟨rfl, ?_, (hk _ _ _ _).setCell _ _ (.inl rfl)⟩
  exact World.cell?_setCell_same _ _ _ (((((((Keep.refl (fun _ => False) w).alloc _).alloc _).alloc _).alloc _).cell hlt (fun h => h) 0).trans ht0)

set_option maxHeartbeats 4000000 in
theorem begun_any {w : World} (hT : T12 w) (hg : w.cell? ⟨0, 0, none⟩ = some (.iface 146 (.agg #[.pointer (some ⟨Tryz.prog.globals.size, 26, none⟩)]))) :
    Calls Tryz.prog 6 #[] w fun e w' => e = .returned (.bool true) ∧ Keep (fun _ => False) w w' := by
  have HT := Lib.hid hT
  have HG := Lib.hid (fun w' (k : Keep (fun _ => False) w w') => (k.cell (cell_lt hg) (fun h => h) 0).trans hg)
  obtain ⟨Z, HZ, HZS, HZE⟩ := zFRoom
  have HI9 := Lib.hid Tryz.infoFRoom
  have P1 := Lib.hid (fun w (h : T12 w) => parse1_any h)
  have P2 := Lib.hid (fun w (h : T12 w) => parse2_any h)
  have P3 := Lib.hid (fun w (h : T12 w) => parse3_any h)
  have I6 := Lib.hid (fun w => Ino.isF_same 6 (by decide) (w := w))
  have A5 := Lib.hid (fun w r tb old => as_line (w := w) (r := r) (tb := tb) (old := old))
  have I13 := Lib.hid (fun w r (h : LErr w r 2) => isF_line h)
  clear hT hg
  simp only [bt1, bt2, bt3, apiErr, lineErr] at P1 P2 P3 I6 A5 I13
  go_enter Tryz.func6, Tryz.ntmps6
  have K := Lib.hid (Keep.refl (fun _ => False) w)
  go_wp2_with (first
    | (go_at_call 8; (with_reducible refine (P1.out _ HT.out).mono ?_); rintro e w1 ⟨d, rfl, hd, k1⟩; have HD := Lib.hid hd; have K := Lib.hid k1; clear hd k1 P1)
    | (go_at_call 15; (with_reducible refine (room1_any HD.out).mono ?_); rintro e w2 ⟨rfl, k2⟩; have K := Lib.hid (K.out.trans k2 (fun _ h => h.elim)); (try (have HB1 := Lib.hid ((k2.block _ (lt_of_block HB1.out) (fun h => h)).trans HB1.out))); clear k2 HD)
    | (refine wpList_alloc_at 3 rfl HZ.out rfl rfl ?_; intro W1 B1 hb1 hk1 hbs; have HB1 := Lib.hid hb1; have HBS := Lib.hid (Nat.le_trans K.out.size hbs); have K := Lib.hid (K.out.trans hk1 (fun _ h => h.elim)); (try have HD := Lib.hid (HD.out.keepN hk1)); clear hbs hb1 hk1; simp only [Act.put, List.setIfInBounds_toArray, List.set_cons_succ, List.set_cons_zero])
    | (refine Cd.wpList_store_arr (C := (roomC yard1).toArray) HI9.out (by rw [HZS.out]; rfl) (by simp [roomC, yard1, Value.oneCell']) rfl (.tmp 3) (.tmp 23) rfl B1 rfl rfl HB1.out ?_; intro ws hws kss hss; have HW := Lib.hid hws; have K := Lib.hid (K.out.trans kss (fun b hb => .inr (by rw [hb]; exact HBS.out))); clear hws kss hss; simp only [Act.put])
    | (go_at_call 8; (with_reducible refine (P2.out _ (T12.keep0 HT.out K.out)).mono ?_); rintro e w3 ⟨rfl, k3⟩; have K := Lib.hid (K.out.trans k3 (fun _ h => h.elim)); have HW := Lib.hid ((k3.block _ (lt_of_block HW.out) (fun h => h)).trans HW.out); clear k3 P2)
    | (go_at_call 8; (with_reducible refine (P3.out _ (T12.keep0 HT.out (K.out.alloc _))).mono ?_); rintro e w4 ⟨b, rfl, hb, k4⟩; have HB := Lib.hid hb; have HTB : Hid (w4.heap[w3.heap.size]? = some (.cells #[.pointer none] 31 (0, 0))) := Lib.hid ((k4.block _ (by simp) (fun h => h)).trans (heap_alloc_new w3 _)); have HTS := Lib.hid K.out.size; have HW := Lib.hid (((((Keep.refl (fun _ => False) w3).alloc _).trans k4 (fun _ h => h.elim)).block _ (lt_of_block HW.out) (fun h => h)).trans HW.out); have K := Lib.hid ((K.out.alloc _).trans k4 (fun _ h => h.elim)); have cy : w4.cell? ⟨B1, 1, none⟩ = some (.string ⟨#[121, 97, 114, 100]⟩) := (cell_of_row w4 B1 1 _ _ _ HW.out).trans rfl; have HBT : Hid (b ≠ w3.heap.size) := Lib.hid (fun h => by subst h; have h1 := HB.out; unfold LErr at h1; rw [HTB.out] at h1; cases h1); clear k4 hb P3)
    | (go_at_call 11; (with_reducible refine (I6.out _).mono ?_); rintro e w' ⟨rfl, rfl⟩)
    | (go_at_call 10; (with_reducible refine (A5.out _ _ _ _ (HG.out _ K.out) HTB.out).mono ?_); rintro e w5 ⟨rfl, hc, k5⟩; have K := Lib.hid (K.out.trans k5 (fun b hb => .inr (by rw [hb]; exact HTS.out))); have HB := Lib.hid (HB.out.keep k5 HBT.out); have cl : w5.cell? ⟨b, 0, none⟩ = some (.int .i64 2) := (cell_of_row w5 b 0 _ _ _ HB.out).trans rfl; clear k5)
    | (go_at_call 11; (with_reducible refine (I13.out _ _ HB.out).mono ?_); rintro e w' ⟨rfl, rfl⟩))
  go_ret
  exact ⟨rfl, K.out⟩
end Go.Proofs.YtcodbomgodkcmaaGreatDoor.Wd
