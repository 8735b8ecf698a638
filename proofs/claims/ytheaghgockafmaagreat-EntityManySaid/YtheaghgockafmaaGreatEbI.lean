/- Start, Level, MaxHp, Char of the program's entity. -/
import Derived.Test.YtheaghgockafmaaGreatEbF
namespace Go.Proofs.YtheaghgockafmaaGreat.Wd
open Go.RowKit Go.Maps Go.Proofs.YtheaghgockafmaaGreat Go.Proofs.YtheaghgockafmaaGreat.Lin Go.Sort
set_option maxRecDepth 100000

def aboveF (x : Int) : Int := (if x < 0 then 0 else x) / 100
theorem aboveF_in {x : Int} (h : x ≤ 9223372036854775807) : 0 ≤ aboveF x ∧ aboveF x ≤ 92233720368547758 := by
  unfold aboveF
  split <;> omega

theorem above_any {w : World} {x : Int} (hx : x ≤ 9223372036854775807) : Calls Tryz.prog 46 #[.int .i64 x] w fun e w' => e = .returned (.int .i64 (aboveF x)) ∧ w' = w := by
  unfold aboveF
  by_cases h : x < 0
  · rw [if_pos h]
    have hm : max x 0 = 0 := by omega
    go_enter Tryz.func46, Tryz.ntmps46
    go_wp2
    go_ret
    exact ⟨rfl, rfl⟩
  · rw [if_neg h]
    have hm : max x 0 = x := by omega
    have hd : wrap64 (x.tdiv 100) = x / 100 := by
      rw [Int.tdiv_eq_ediv_of_nonneg (by omega)]
      unfold wrap64; omega
    go_enter Tryz.func46, Tryz.ntmps46
    go_wp2
    go_ret
    exact ⟨by rw [← hd]; rfl, rfl⟩
theorem level_any {w : World} {x : Int} (hx : x ≤ 9223372036854775807) : Calls Tryz.prog 15 #[.int .i64 x] w fun e w' => e = .returned (.int .i64 (1 + aboveF x)) ∧ w' = w := by
  obtain ⟨h1, h2⟩ := aboveF_in hx
  have HA := Lib.hid (above_any (w := w) hx)
  generalize aboveF x = y at *
  have hw : IntKind.i64.wrap (1 + y) = 1 + y := by simp [IntKind.wrap, IntKind.signed, IntKind.bits]; omega
  go_enter Tryz.func15, Tryz.ntmps15
  go_wp2_with (go_at_call 46; (with_reducible refine HA.out.mono ?_); rintro e w9 ⟨rfl, rfl⟩)
  go_ret
  exact ⟨rfl, rfl⟩
theorem maxHp_any {w : World} {x : Int} (hx : x ≤ 9223372036854775807) : Calls Tryz.prog 17 #[.int .i64 x] w fun e w' => e = .returned (.int .i64 (20 + 5 * aboveF x)) ∧ w' = w := by
  obtain ⟨h1, h2⟩ := aboveF_in hx
  have HA := Lib.hid (above_any (w := w) hx)
  generalize aboveF x = y at *
  have hw1 : IntKind.i64.wrap (5 * y) = 5 * y := by simp [IntKind.wrap, IntKind.signed, IntKind.bits]; omega
  have hw : IntKind.i64.wrap (20 + 5 * y) = 20 + 5 * y := by simp [IntKind.wrap, IntKind.signed, IntKind.bits]; omega
  go_enter Tryz.func17, Tryz.ntmps17
  go_wp2_with (go_at_call 46; (with_reducible refine HA.out.mono ?_); rintro e w9 ⟨rfl, rfl⟩)
  go_ret
  exact ⟨rfl, rfl⟩

structure StR (D : DbM) (n : Int) (w0 : World) (lv iv : Value) (wr : World) : Prop where
  ex : ∃ i : Nat, i ≤ D.rooms.length ∧ iv = .int .i64 (i : Int) ∧ lv = .int .i64 n ∧ Keep (fun _ => False) w0 wr
set_option maxHeartbeats 4000000 in
theorem start16_any {P : Nat → Prop} {w : World} {d : Nat} {D : DbM} {x0 : RoomM} (h : DbAt P w d 0 D) (h0 : D.rooms[0]? = some x0) (hr : D.rooms.Pairwise (fun a b => a.id < b.id)) (hl : D.rooms.length ≤ 1000) :
    Calls Tryz.prog 25 #[.pointer (some ⟨d, 0, none⟩)] w fun e w' => e = .returned (.int .i64 x0.id) ∧ Keep (fun _ => False) w w' := by
  obtain ⟨v1, v2, v3, v4, v5, v6, rr, ss, hd, hrg, h1, _⟩ := h.ex
  obtain ⟨a, c, rfl, hc1, hc2⟩ := h1.slice
  have hpos := (List.getElem?_eq_some_iff.1 h0).1
  obtain ⟨g, off, rfl, hg⟩ := h1.some h0
  have p0 : w.cell? ⟨d, 0, none⟩ = some (.slice (some ⟨g, off, none⟩) D.rooms.length c) := by simpa using hrg 0 _ rfl
  have q0 : w.cell? ⟨g, off, none⟩ = some (.int .i64 x0.id) := by simpa using h1.range roomC_len 0 x0 h0 0 _ rfl
  have hd0 : decide (0 < D.rooms.length) = true := by simpa using hpos
  have he0 : ((D.rooms.length : Int) == 0) = false := by rw [beq_eq_false_iff_ne]; omega
  have H := Lib.hid h1
  have HR : Hid (∀ (j : Nat) (y : RoomM), D.rooms[j]? = some y → min x0.id y.id = x0.id) := Lib.hid (fun j y hy => by
    obtain ⟨hj, rfl⟩ := List.getElem?_eq_some_iff.1 hy
    obtain ⟨h0', rfl⟩ := List.getElem?_eq_some_iff.1 h0
    rcases Nat.eq_zero_or_pos j with rfl | hj0
    · omega
    · have := List.pairwise_iff_getElem.1 hr 0 j h0' hj hj0
      omega)
  unfold maxLen at hc2
  clear h hrg h1 hr h0
  go_enter Tryz.func25, Tryz.ntmps25
  go_wp2
  go_loopw [3, 28] (fun lv iv wr => StR D x0.id w lv iv wr) (fun _ iv _ => D.rooms.length - (intOf iv).toNat)
  case atStart => exact ⟨0, by omega, rfl, rfl, Keep.refl _ _⟩
  case round =>
    obtain ⟨k, hk, rfl, rfl, hK⟩ := hrel.ex
    have HK := Lib.hid hK
    clear hrel hK
    by_cases hlt : k < D.rooms.length
    · have hd1 : decide (k < D.rooms.length) = true := by simpa using hlt
      obtain ⟨x, hx⟩ : ∃ x, D.rooms[k]? = some x := ⟨_, List.getElem?_eq_getElem hlt⟩
      have HMP := Lib.hid ((H.out.keep HK.out (fun _ _ e => e)).range roomC_len k x hx)
      have q0 : wr.cell? ⟨g, off + k * 10, none⟩ = some (.int .i64 x.id) := by simpa using HMP.out 0 _ rfl
      have q1 : wr.cell? ⟨g, off + k * 10 + 1, none⟩ = some (.string x.name) := by simpa using HMP.out 1 _ rfl
      have q2 : wr.cell? ⟨g, off + k * 10 + 2, none⟩ = some (.int .i64 x.kind) := by simpa using HMP.out 2 _ rfl
      have q3 : wr.cell? ⟨g, off + k * 10 + 3, none⟩ = some (.int .i64 x.price) := by simpa using HMP.out 3 _ rfl
      have q4 : wr.cell? ⟨g, off + k * 10 + 4, none⟩ = some (.int .i64 x.e0) := by simpa using HMP.out 4 _ rfl
      have q5 : wr.cell? ⟨g, off + k * 10 + 5, none⟩ = some (.int .i64 x.e1) := by simpa using HMP.out 5 _ rfl
      have q6 : wr.cell? ⟨g, off + k * 10 + 6, none⟩ = some (.int .i64 x.e2) := by simpa using HMP.out 6 _ rfl
      have q7 : wr.cell? ⟨g, off + k * 10 + 7, none⟩ = some (.int .i64 x.e3) := by simpa using HMP.out 7 _ rfl
      have q8 : wr.cell? ⟨g, off + k * 10 + 8, none⟩ = some (.int .i64 x.e4) := by simpa using HMP.out 8 _ rfl
      have q9 : wr.cell? ⟨g, off + k * 10 + 9, none⟩ = some (.int .i64 x.e5) := by simpa using HMP.out 9 _ rfl
      have hmin := HR.out k x hx
      clear hx HMP
      go_wp2
      go_roundw
      case rel => exact ⟨k + 1, by omega, by go_num, rfl, HK.out.alloc _⟩
      case measure => simp [intOf]; omega
    · have hd1 : decide (k < D.rooms.length) = false := by simpa using hlt
      go_wp2
      go_ret
      exact ⟨rfl, HK.out⟩
theorem charNil_any {w : World} {q : Nat} {a : Option Addr} {c : Nat} (hq : w.cell? ⟨q, 3, none⟩ = some (.slice a 0 c)) (s : ByteArray) : Calls Tryz.prog 28 #[.pointer (some ⟨q, 0, none⟩), .string s] w fun e w' => e = .returned (.int .i64 (-1)) ∧ Keep (fun _ => False) w w' := by
  have hk : Keep (fun _ => False) w (w.alloc (.cells #[.string s] 9)) := (Keep.refl _ w).alloc _
  have q4 := (hk.cell (cell_lt hq) (fun e => e) _).trans hq
  have HK := Lib.hid hk
  clear hk
  go_enter Tryz.func28, Tryz.ntmps28
  go_wp2_with (go_at_call 80; (with_reducible refine idxNilChar_any.mono ?_); rintro e w9 ⟨rfl, k9⟩; have K9 := Lib.hid k9; clear k9)
  go_ret
  exact ⟨rfl, HK.out.trans K9.out (fun _ e => e.elim)⟩
end Go.Proofs.YtheaghgockafmaaGreat.Wd
