/- Demands of May, of a new world: bounds, order, mobiles, tills, rooms. -/
import Derived.Test.YtheaghgockafmaaGreatEbE
import Derived.Test.YtheaghgockafmaaGreatEaM
namespace Go.Proofs.YtheaghgockafmaaGreat.Wd
open Go.RowKit Go.Maps Go.Proofs.YtheaghgockafmaaGreat Go.Proofs.YtheaghgockafmaaGreat.Lin Go.Sort
set_option maxRecDepth 100000

theorem withinE_any {w : World} {n a b : Int} (h1 : a ≤ n) (h2 : n ≤ b) : Calls Tryz.prog 108 #[.int .i64 n, .int .i64 a, .int .i64 b] w fun e w' => e = .returned (.bool true) ∧ w' = w := by
  have e1 : decide (a ≤ n) = true := by simpa using h1
  have e2 : decide (n ≤ b) = true := by simpa using h2
  go_enter Tryz.func108, Tryz.ntmps108
  go_wp2
  go_ret
  exact ⟨rfl, rfl⟩
theorem isGoldE_any {w : World} {n : Int} (h1 : 0 ≤ n) (h2 : n ≤ 1099511627776) : Calls Tryz.prog 133 #[.int .i64 n] w fun e w' => e = .returned (.bool true) ∧ w' = w := by
  go_enter Tryz.func133, Tryz.ntmps133
  go_wp2_with (go_at_call 108; (with_reducible refine (withinE_any h1 h2).mono ?_); rintro e w9 ⟨rfl, rfl⟩)
  go_ret
  exact ⟨rfl, rfl⟩

set_option maxHeartbeats 4000000 in
theorem hasBounds_any {N : Nat → Prop} {w : World} {q : Nat} {W : WM} (h : WAt N w q W) (h0 : W.now = 0) (h1 : 1 ≤ W.next) (h2 : W.next ≤ 1000) (hc : W.chars = []) (ht : W.things = []) (hl : W.lots = []) :
    Calls Tryz.prog 57 #[.pointer (some ⟨q, 0, none⟩)] w fun e w' => e = .returned (.bool true) ∧ w' = w := by
  obtain ⟨a3, c3, cr, q3, -⟩ := h.chars
  obtain ⟨a4, c4, q4, -⟩ := h.things
  obtain ⟨a7, c7, q7, -⟩ := h.lots
  have q01 : w.cell? ⟨q, 0, none⟩ = some (.int .i64 0) ∧ w.cell? ⟨q, 1, none⟩ = some (.int .i64 W.next) := by
    obtain ⟨v1, v2, v3, v4, v5, v6, cr, hr, hw⟩ := h
    rw [← h0]
    exact ⟨(cell_of_row w q 0 _ _ _ hw.blk).trans rfl, (cell_of_row w q 1 _ _ _ hw.blk).trans rfl⟩
  obtain ⟨q0, q1⟩ := q01
  rw [hc] at q3; rw [ht] at q4; rw [hl] at q7
  generalize W.next = n at *
  clear h h0 hc ht hl
  go_enter Tryz.func57, Tryz.ntmps57
  go_wp2_with (go_at_call 108; (with_reducible refine (withinE_any (by omega) (by omega)).mono ?_); rintro e w9 ⟨rfl, rfl⟩)
  go_ret
  exact ⟨rfl, rfl⟩
set_option maxHeartbeats 4000000 in
theorem hasOrder_any {N : Nat → Prop} {w : World} {q : Nat} {W : WM} {M : List MobPM} (h : WAt N w q W) (hc : W.chars = []) (ht : W.things = []) (hl : W.lots = []) (hh : W.houses = []) (hm : W.mobs = mobsL M) (hl60 : M.length ≤ 60) :
    Calls Tryz.prog 58 #[.pointer (some ⟨q, 0, none⟩)] w fun e w' => e = .returned (.bool true) ∧ Keep (fun _ => False) w w' := by
  obtain ⟨a3, c3, cr, q3, -⟩ := h.chars
  obtain ⟨a4, c4, q4, -⟩ := h.things
  obtain ⟨a5, c5, q5, r5, -, -⟩ := h.mobs
  obtain ⟨a6, c6, hr, q6, -⟩ := h.houses
  obtain ⟨a7, c7, q7, -⟩ := h.lots
  rw [hc] at q3; rw [ht] at q4; rw [hl] at q7; rw [hh] at q6
  obtain ⟨L, hL⟩ : ∃ L, L = W.mobs := ⟨_, rfl⟩
  rw [← hL] at q5 r5 hm
  have hp : L.Pairwise (fun a b => a.id < b.id) := by
    have := idsL_rise M
    rw [← hm] at this
    unfold idsL at this
    rwa [List.pairwise_map] at this
  have hll : L.length ≤ 1000000 := by rw [hm, mobsL_len]; omega
  have HM : Hid (∀ w9, Keep (fun _ => False) w w9 → Calls Tryz.prog 113 #[.slice a5 L.length c5, .func (.func 114) #[] #[]] w9 fun e w' => e = .returned (.bool true) ∧ Keep (fun _ => False) w9 w') := Lib.hid (fun w9 k => (risesMoE_any ((r5.row.seen).keep k (fun _ _ _ e => e)) hll).mono fun e w' hh => by
    obtain ⟨b, he, hb, hk⟩ := hh
    exact ⟨by rw [he, hb.2 hp], hk⟩)
  have HQ : Hid (∀ w9, Keep (fun _ => False) w w9 → w9.cell? ⟨q, 3, none⟩ = some (.slice a3 0 c3) ∧ w9.cell? ⟨q, 4, none⟩ = some (.slice a4 0 c4) ∧ w9.cell? ⟨q, 5, none⟩ = some (.slice a5 L.length c5) ∧ w9.cell? ⟨q, 6, none⟩ = some (.slice a6 0 c6) ∧ w9.cell? ⟨q, 7, none⟩ = some (.slice a7 0 c7)) := Lib.hid (fun w9 k => by
    have c := fun j => k.cell (World.block_lt_of_cell? _ _ q3) (fun e => e) j
    exact ⟨(c _).trans q3, (c _).trans q4, (c _).trans q5, (c _).trans q6, (c _).trans q7⟩)
  have K0 : Hid (Keep (fun _ => False) w w) := Lib.hid (Keep.refl _ _)
  clear h hc ht hl hh hm r5 hp q4 q5 q6 q7 hL
  go_enter Tryz.func58, Tryz.ntmps58
  go_wp2_with (first
    | (go_at_call 109; (with_reducible refine risNilChar_any.mono ?_); rintro e w1 ⟨rfl, k9⟩; have K1 := Lib.hid (K0.out.trans k9 (fun _ e => e.elim)); clear k9; obtain ⟨-, q4, -⟩ := HQ.out _ K1.out)
    | (go_at_call 111; (with_reducible refine risNilThing_any.mono ?_); rintro e w2 ⟨rfl, k9⟩; have K2 := Lib.hid (K1.out.trans k9 (fun _ e => e.elim)); clear k9 q4; obtain ⟨-, -, q5, -⟩ := HQ.out _ K2.out)
    | (go_at_call 113; (with_reducible refine (HM.out _ K2.out).mono ?_); rintro e w3 ⟨rfl, k9⟩; have K3 := Lib.hid (K2.out.trans k9 (fun _ e => e.elim)); clear k9 q5; obtain ⟨-, -, -, -, q7⟩ := HQ.out _ K3.out)
    | (go_at_call 115; (with_reducible refine risNilLot_any.mono ?_); rintro e w4 ⟨rfl, k9⟩; have K4 := Lib.hid (K3.out.trans k9 (fun _ e => e.elim)); clear k9 q7; obtain ⟨-, -, -, q6, -⟩ := HQ.out _ K4.out)
    | (go_at_call 117; (with_reducible refine risNilHouse_any.mono ?_); rintro e w5 ⟨rfl, k9⟩; have K5 := Lib.hid (K4.out.trans k9 (fun _ e => e.elim)); clear k9 q6))
  go_ret
  exact ⟨rfl, K5.out⟩

set_option maxHeartbeats 4000000 in
theorem hasRoomE_any {P : Nat → Prop} {w : World} {d : Nat} {D : DbM} (h : DbAt P w d 0 D) (id : Int) : Calls Tryz.prog 132 #[.pointer (some ⟨d, 0, none⟩), .int .i64 id] w fun e w' => e = .returned (.bool (hasRoom D id)) ∧ Keep (fun _ => False) w w' := by
  obtain ⟨C9, b9, -, HU9, HS9, HO9, hb⟩ := fndRoom_one D.rooms id
  have hb2 : hasRoom D id = b9 := by rw [hb]; rfl
  rw [hb2]
  have HFIND : Hid (Calls Tryz.prog 152 #[.pointer (some ⟨d, 0, none⟩), .int .i64 id] w fun e w' => e = .returned (.tuple #[.agg C9, .bool b9]) ∧ Keep (fun _ => False) w w') := Lib.hid ((RoomF_any h id).mono fun e w' hh => ⟨HU9 e hh.1, hh.2⟩)
  have HS := Lib.hid HS9
  have HO := Lib.hid HO9
  obtain ⟨Z, HZ, HZS, HZE⟩ := zFRoom
  have HI9 := Lib.hid Tryz.infoFRoom
  clear h HU9 HS9 HO9 hb hb2
  go_enter Tryz.func132, Tryz.ntmps132
  go_wp2_with (first
    | (go_at_call 152; (with_reducible refine HFIND.out.mono ?_); rintro e w9 ⟨rfl, k9⟩; have K9 := Lib.hid k9; clear k9)
    | (refine wpList_var_any (C := C9) HZ.out (by rw [HS.out]; exact HI9.out) (by rw [HZS.out, HS.out]) HO.out rfl rfl rfl (.tmp 5) (.tmp 11) rfl rfl rfl ?_; intro W1 B1 hb1 hk1; have HK1 := Lib.hid hk1; clear hb1 hk1; simp only [Act.put, List.setIfInBounds_toArray, List.set_cons_succ, List.set_cons_zero]))
  go_ret
  exact ⟨rfl, K9.out.trans HK1.out (fun _ h => h.elim)⟩
set_option maxHeartbeats 4000000 in
theorem isMobE_any {P : Nat → Prop} {w : World} {d : Nat} {D : DbM} (h : DbAt P w d 0 D) {n : Int} {x : MobPM} {i : Nat} (hx : D.mobs[i]? = some x) (hf : findI (fun y : MobPM => y.id == x.id) D.mobs = (i : Int)) (hr : hasRoom D x.home = true) (hp : 1 ≤ x.hp) :
    Calls Tryz.prog 68 #[.pointer (some ⟨d, 0, none⟩), .agg (moC ⟨n, x.id, x.home, x.hp⟩).toArray] w fun e w' => e = .returned (.bool true) ∧ Keep (fun _ => False) w w' := by
  have HF : Hid (∀ w9, Keep (fun _ => False) w w9 → Calls Tryz.prog 149 #[.pointer (some ⟨d, 0, none⟩), .int .i64 x.id] w9 fun e w' => e = .returned (.tuple #[.agg #[.int .i64 x.id, .string x.name, .int .i64 x.home, .int .i64 x.hp, .int .i64 x.power, .int .i64 x.xp, .int .i64 x.gold], .bool true]) ∧ Keep (fun _ => False) w9 w') := Lib.hid (fun w9 k => (MobPF_any (h.keepN k) x.id).mono fun e w' hh => ⟨by
    rcases hh.1 with ⟨k', x', h1, h2, h3⟩ | ⟨h1, _⟩
    · have : k' = i := by rw [hf] at h1; omega
      subst this
      rw [hx] at h2; cases h2
      exact h3
    · rw [hf] at h1; omega, hh.2⟩)
  have HR : Hid (∀ w9, Keep (fun _ => False) w w9 → Calls Tryz.prog 132 #[.pointer (some ⟨d, 0, none⟩), .int .i64 x.home] w9 fun e w' => e = .returned (.bool true) ∧ Keep (fun _ => False) w9 w') := Lib.hid (fun w9 k => by rw [← hr]; exact hasRoomE_any (h.keepN k) x.home)
  have HKB : Hid (Keep (fun _ => False) w (w.alloc (.cells #[.int .i64 n, .int .i64 x.id, .int .i64 x.home, .int .i64 x.hp] 76))) := Lib.hid ((Keep.refl _ w).alloc _)
  have HB : Hid (∀ w9, Keep (fun _ => False) (w.alloc (.cells #[.int .i64 n, .int .i64 x.id, .int .i64 x.home, .int .i64 x.hp] 76)) w9 → w9.cell? ⟨w.heap.size, 2, none⟩ = some (.int .i64 x.home) ∧ w9.cell? ⟨w.heap.size, 3, none⟩ = some (.int .i64 x.hp)) := Lib.hid (fun w9 k => by
    have hb := heap_alloc_new w (.cells #[.int .i64 n, .int .i64 x.id, .int .i64 x.home, .int .i64 x.hp] 76)
    exact ⟨(k.cell (lt_of_block hb) (fun e => e) _).trans ((cell_of_row _ _ 2 _ _ _ hb).trans rfl), (k.cell (lt_of_block hb) (fun e => e) _).trans ((cell_of_row _ _ 3 _ _ _ hb).trans rfl)⟩)
  simp only [moC]
  clear h hx hf hr
  go_enter Tryz.func68, Tryz.ntmps68
  go_wp2_with (first
    | (go_at_call 149; (with_reducible refine (HF.out _ HKB.out).mono ?_); rintro e w1 ⟨rfl, k9⟩; have K1 := Lib.hid k9; have ka9 := k9.alloc (.cells #[.int .i64 x.id, .string x.name, .int .i64 x.home, .int .i64 x.hp, .int .i64 x.power, .int .i64 x.xp, .int .i64 x.gold] 105); obtain ⟨b2, b3⟩ := HB.out _ ka9; have KA := Lib.hid ka9; clear k9 ka9)
    | (go_at_call 132; (with_reducible refine (HR.out _ (HKB.out.trans KA.out (fun _ e => e.elim))).mono ?_); rintro e w2 ⟨rfl, k9⟩; have K2 := Lib.hid (KA.out.trans k9 (fun _ e => e.elim)); obtain ⟨c2, c3⟩ := HB.out _ K2.out; have p3 : w2.cell? ⟨w1.heap.size, 3, none⟩ = some (.int .i64 x.hp) := (k9.cell (lt_of_block (heap_alloc_new w1 _)) (fun e => e) _).trans ((cell_of_row _ _ 3 _ _ _ (heap_alloc_new w1 _)).trans rfl); clear k9)
    | (go_at_call 108; (with_reducible refine (withinE_any hp (Int.le_refl _)).mono ?_); rintro e w3 ⟨rfl, rfl⟩))
  go_ret
  exact ⟨rfl, HKB.out.trans K2.out (fun _ e => e.elim)⟩
end Go.Proofs.YtheaghgockafmaaGreat.Wd
