/- World files: the reference's rooms (made by tools/gendb.py). -/
import Derived.Test.YtcodbomgodkcmaaGreatDoorDbA
import Derived.Test.YtcodbomgodkcmaaGreatDoorCdW
import Derived.Deep.QuietTactic
import Derived.BigQuiet
namespace Go.Proofs.YtcodbomgodkcmaaGreatDoor.Wd
open Go.RowKit Go.Maps Go.Proofs.YtcodbomgodkcmaaGreatDoor Go.Proofs.YtcodbomgodkcmaaGreatDoor.Lin
set_option maxRecDepth 100000

theorem kdrewB (w : World) (n : Nat) : Keep (fun _ => False) w (w.drewN n) := ⟨rfl, rfl, rfl, Nat.le_refl _, fun _ _ _ => rfl⟩
theorem refWordOk {w : World} (s : ByteArray) (hs : s.size ≤ 1000000) : Calls Tryz.prog 77 #[.string s] w fun e w' => e = .returned (.bool (wordOk s)) ∧ w = w' := refWord_any s hs

/-- The loop over one list. -/
structure RiR {α : Type} (ok : α → Bool) (key : α → Int) (L : List α) (w0 : World) (iv : Value) (wr : World) : Prop where
  ex : ∃ k : Nat, k ≤ L.length ∧ iv = .int .i64 (k : Int) ∧ RiseTo ok key L k ∧ Keep (fun _ => False) w0 wr

/-- An exit. -/
def exF (x : RoomM) : Nat → Int
  | 0 => x.e0
  | 1 => x.e1
  | 2 => x.e2
  | 3 => x.e3
  | 4 => x.e4
  | _ => x.e5
theorem exF_cell (x : RoomM) {j : Nat} (h : j < 6) : (roomC x).toArray[4 + j]? = some (.int .i64 (exF x j)) := by
  match j, h with
  | 0, _ => rfl
  | 1, _ => rfl
  | 2, _ => rfl
  | 3, _ => rfl
  | 4, _ => rfl
  | 5, _ => rfl
  | j + 6, h => omega
theorem okRoom_exit {x : RoomM} {j : Nat} (h : j < 6) (hb : inB (exF x j) 0 1000 = false) : okRoom x = false := by
  unfold okRoom
  match j, h, hb with
  | 0, _, hb => rw [show inB x.e0 0 1000 = false from hb]; simp
  | 1, _, hb => rw [show inB x.e1 0 1000 = false from hb]; simp
  | 2, _, hb => rw [show inB x.e2 0 1000 = false from hb]; simp
  | 3, _, hb => rw [show inB x.e3 0 1000 = false from hb]; simp
  | 4, _, hb => rw [show inB x.e4 0 1000 = false from hb]; simp
  | 5, _, hb => rw [show inB x.e5 0 1000 = false from hb]; simp
  | j + 6, h, _ => omega
theorem okRoom_all {x : RoomM} (h : inB x.id 1 1000 = true ∧ wordOk x.name = true ∧ inB x.kind 0 5 = true ∧ inB x.price 0 1073741824 = true) (he : ∀ i, i < 6 → inB (exF x i) 0 1000 = true) : okRoom x = true := by
  obtain ⟨h1, h2, h3, h4⟩ := h
  unfold okRoom gMax
  rw [h1, h2, h3, h4, show inB x.e0 0 1000 = true from he 0 (by omega), show inB x.e1 0 1000 = true from he 1 (by omega), show inB x.e2 0 1000 = true from he 2 (by omega), show inB x.e3 0 1000 = true from he 3 (by omega), show inB x.e4 0 1000 = true from he 4 (by omega), show inB x.e5 0 1000 = true from he 5 (by omega)]
  rfl

structure ExR (x : RoomM) (w0 : World) (jv : Value) (wr : World) : Prop where
  ex : ∃ j : Nat, j ≤ 6 ∧ jv = .int .i64 (j : Int) ∧ (∀ i, i < j → inB (exF x i) 0 1000 = true) ∧ Keep (fun _ => False) w0 wr

theorem zrooms : ∃ Z : Array Value, Hid (∀ w : World, (zeroValue 53).run Tryz.prog w = .ok (.agg Z) w) ∧ Hid (Z.size = 10) :=
  ⟨#[.int .i64 0, .string ⟨#[]⟩, .int .i64 0, .int .i64 0, .int .i64 0, .int .i64 0, .int .i64 0, .int .i64 0, .int .i64 0, .int .i64 0], Lib.hid (fun w => by kernel_rfl), Lib.hid rfl⟩

set_option maxHeartbeats 4000000 in
theorem refRooms_any {w : World} {d o : Nat} {D : DbM} {P : Nat → Prop} (h : DbAt P w d o D) (hl : D.rooms.length ≤ 1000000) (hn : ∀ r ∈ D.rooms, r.name.size ≤ 1000000) :
    Calls Tryz.prog 29 #[.pointer (some ⟨d, o, none⟩)] w fun e w' => ∃ b, e = .returned (.bool b) ∧ (b = true ↔ RoomsOk D) ∧ Keep (fun _ => False) w w' := by
  obtain ⟨v1, v2, v3, v4, v5, v6, rr, ss, hd, hr, h1, _⟩ := h.ex
  have H1 := Lib.hid h1
  have p1 : w.cell? ⟨d, o, none⟩ = some v1 := hr 0 _ rfl
  have HProoms : Hid (∀ w9, Keep (fun _ => False) w w9 → w9.cell? ⟨d, o, none⟩ = some v1) := Lib.hid (fun w9 k => (k.cell hd (fun h => h) _).trans p1)
  obtain ⟨a1, c1, rfl, hc1, hc2⟩ := h1.slice
  unfold maxLen at hc2
  obtain ⟨L, hL⟩ : ∃ L, L = D.rooms := ⟨_, rfl⟩
  unfold RoomsOk
  rw [← hL] at H1 p1 hc1 hl hn HProoms ⊢
  have HN := Lib.hid hn
  obtain ⟨Z, HZr, HZSrooms⟩ := zrooms
  have HZrooms := Lib.hid HZr
  clear h hr h1 hL hn HZr
  go_enter Tryz.func29, Tryz.ntmps29
  go_wp2
  go_loopw [3] (fun iv wr => RiR okRoom RoomM.id L w iv wr) (fun iv _ => L.length - (intOf iv).toNat)
  case atStart => exact ⟨0, by omega, rfl, RiseTo.zero _ _ _, Keep.refl _ _⟩
  case round =>
    obtain ⟨k, hk, rfl, hall, hK⟩ := hrel.ex
    have HA := Lib.hid hall; have HK := Lib.hid hK
    clear hall hrel hK
    have p2 := HProoms.out wr HK.out
    by_cases hlt : k < L.length
    · skip
      have hd1 : decide (k < L.length) = true := by simpa using hlt
      obtain ⟨x, hx⟩ : ∃ x, L[k]? = some x := ⟨_, List.getElem?_eq_getElem hlt⟩
      obtain ⟨g, off, rfl, hg⟩ := H1.out.some hx
      have hrg : wr.rangeAt g (off + k * 10) (roomC x) := range_keep (H1.out.range roomC_len k x hx) HK.out hg (fun h => h)
      have q0 : wr.cell? ⟨g, off + k * 10, none⟩ = some (.int .i64 x.id) := hrg 0 _ rfl
      have q1 : wr.cell? ⟨g, off + k * 10 + 1, none⟩ = some (.string x.name) := hrg 1 _ rfl
      have q2 : wr.cell? ⟨g, off + k * 10 + 2, none⟩ = some (.int .i64 x.kind) := hrg 2 _ rfl
      have q3 : wr.cell? ⟨g, off + k * 10 + 3, none⟩ = some (.int .i64 x.price) := hrg 3 _ rfl
      have q4 : wr.cell? ⟨g, off + k * 10 + 4, none⟩ = some (.int .i64 x.e0) := hrg 4 _ rfl
      have q5 : wr.cell? ⟨g, off + k * 10 + 5, none⟩ = some (.int .i64 x.e1) := hrg 5 _ rfl
      have q6 : wr.cell? ⟨g, off + k * 10 + 6, none⟩ = some (.int .i64 x.e2) := hrg 6 _ rfl
      have q7 : wr.cell? ⟨g, off + k * 10 + 7, none⟩ = some (.int .i64 x.e3) := hrg 7 _ rfl
      have q8 : wr.cell? ⟨g, off + k * 10 + 8, none⟩ = some (.int .i64 x.e4) := hrg 8 _ rfl
      have q9 : wr.cell? ⟨g, off + k * 10 + 9, none⟩ = some (.int .i64 x.e5) := hrg 9 _ rfl
      have HNX : Hid (x.name.size ≤ 1000000) := Lib.hid (HN.out x (List.mem_of_getElem? hx))
      have HX := Lib.hid hx
      have HPRE : Hid (∀ m : Nat, k = m + 1 → ∃ (y : RoomM), L[m]? = some y ∧ ∀ w9, Keep (fun _ => False) w w9 → w9.cell? ⟨g, off + m * 10, none⟩ = some (.int .i64 y.id)) := Lib.hid (fun m hm => by
        obtain ⟨y, hy⟩ : ∃ y, L[m]? = some y := ⟨_, List.getElem?_eq_getElem (by omega)⟩
        exact ⟨y, hy, fun w9 k9 => (k9.cell hg (fun h => h) _).trans (H1.out.cell roomC_len m 0 y hy (by omega))⟩)
      clear hrg hx
      go_wp2_with (refine Cd.wpList_var_arr (C := (roomC x).toArray) HZrooms.out rfl HZSrooms.out (by simp [roomC, Value.oneCell']) rfl rfl rfl (.tmp 4) (.tmp 21) rfl rfl rfl ?_; simp only [Act.put, List.setIfInBounds_toArray, List.set_cons_succ, List.set_cons_zero])
      have HB : Hid ((wr.alloc (.cells (roomC x).toArray 53)).heap[wr.heap.size]? = some (.cells (roomC x).toArray 53 (0, 0))) := Lib.hid (heap_alloc_new wr _)
      have HK1 : Hid (Keep (fun _ => False) w (wr.alloc (.cells (roomC x).toArray 53))) := Lib.hid (HK.out.alloc _)
      generalize wr.alloc (.cells (roomC x).toArray 53) = W1 at HB HK1 ⊢
      generalize wr.heap.size = B at HB ⊢
      clear p2 HK q0 q1 q2 q3 q4 q5 q6 q7 q8 q9
      have c0 : W1.cell? ⟨B, 0, none⟩ = some (.int .i64 x.id) := (cell_of_row W1 B 0 _ _ _ HB.out).trans rfl
      have c1 : W1.cell? ⟨B, 1, none⟩ = some (.string x.name) := (cell_of_row W1 B 1 _ _ _ HB.out).trans rfl
      have c2 : W1.cell? ⟨B, 2, none⟩ = some (.int .i64 x.kind) := (cell_of_row W1 B 2 _ _ _ HB.out).trans rfl
      have c3 : W1.cell? ⟨B, 3, none⟩ = some (.int .i64 x.price) := (cell_of_row W1 B 3 _ _ _ HB.out).trans rfl
      have c4 : W1.cell? ⟨B, 4, none⟩ = some (.int .i64 x.e0) := (cell_of_row W1 B 4 _ _ _ HB.out).trans rfl
      have c5 : W1.cell? ⟨B, 5, none⟩ = some (.int .i64 x.e1) := (cell_of_row W1 B 5 _ _ _ HB.out).trans rfl
      have c6 : W1.cell? ⟨B, 6, none⟩ = some (.int .i64 x.e2) := (cell_of_row W1 B 6 _ _ _ HB.out).trans rfl
      have c7 : W1.cell? ⟨B, 7, none⟩ = some (.int .i64 x.e3) := (cell_of_row W1 B 7 _ _ _ HB.out).trans rfl
      have c8 : W1.cell? ⟨B, 8, none⟩ = some (.int .i64 x.e4) := (cell_of_row W1 B 8 _ _ _ HB.out).trans rfl
      have c9 : W1.cell? ⟨B, 9, none⟩ = some (.int .i64 x.e5) := (cell_of_row W1 B 9 _ _ _ HB.out).trans rfl
      have p3 := HProoms.out W1 HK1.out
      have HBAD : Hid (∀ (w9 : World) (k9 : Keep (fun _ => False) W1 w9) (h : okRoom x = false ∨ ∃ y, 0 < k ∧ L[k - 1]? = some y ∧ x.id ≤ y.id), ∃ b, Ending.returned (.bool false) = .returned (.bool b) ∧ (b = true ↔ Rise okRoom RoomM.id L ∧ L.length ≤ 60) ∧ Keep (fun _ => False) w w9) := Lib.hid (fun w9 k9 h => ⟨false, rfl, ⟨fun (h0 : false = true) => (by cases h0), fun h0 => absurd h0.1 (RiseTo.fail HX.out h)⟩, (HK1.out.trans k9 (fun _ h => h.elim))⟩)
      cases b0 : inB x.id 1 1000 with
      | false =>
        have C0 : Hid (∀ nn, Calls Tryz.prog 84 #[.int .i64 x.id, .int .i64 1, .int .i64 1000] (W1.drewN nn) fun e w' => e = .returned (.bool false) ∧ w' = W1.drewN nn) := Lib.hid (fun nn => (refIn_any x.id 1 1000).mono fun _ _ h => ⟨by rw [h.1, b0], h.2.symm⟩)
        have HF : Hid (okRoom x = false) := Lib.hid (by unfold okRoom; rw [b0]; simp)
        clear b0
        go_wp2
        go_quiet (first | (go_at_call 84; with_reducible refine Calls.quiet_of_same (C0.out _)))
        go_wp2
        go_ret
        exact HBAD.out _ (kdrewB _ _) (.inl HF.out)
      | true =>
        cases b1 : wordOk x.name with
        | false =>
          have C0 : Hid (∀ nn, Calls Tryz.prog 84 #[.int .i64 x.id, .int .i64 1, .int .i64 1000] (W1.drewN nn) fun e w' => e = .returned (.bool true) ∧ w' = W1.drewN nn) := Lib.hid (fun nn => (refIn_any x.id 1 1000).mono fun _ _ h => ⟨by rw [h.1, b0], h.2.symm⟩)
          have C1 : Hid (∀ nn, Calls Tryz.prog 77 #[.string x.name] (W1.drewN nn) fun e w' => e = .returned (.bool false) ∧ w' = W1.drewN nn) := Lib.hid (fun nn => (refWordOk x.name HNX.out).mono fun _ _ h => ⟨by rw [h.1, b1], h.2.symm⟩)
          have HF : Hid (okRoom x = false) := Lib.hid (by unfold okRoom; rw [b0, b1]; simp)
          clear b0 b1
          go_wp2
          go_quiet (first | (go_at_call 84; with_reducible refine Calls.quiet_of_same (C0.out _)) | (go_at_call 77; with_reducible refine Calls.quiet_of_same (C1.out _)))
          go_wp2
          go_ret
          exact HBAD.out _ (kdrewB _ _) (.inl HF.out)
        | true =>
          cases b2 : inB x.kind 0 5 with
          | false =>
            have C0 : Hid (∀ nn, Calls Tryz.prog 84 #[.int .i64 x.id, .int .i64 1, .int .i64 1000] (W1.drewN nn) fun e w' => e = .returned (.bool true) ∧ w' = W1.drewN nn) := Lib.hid (fun nn => (refIn_any x.id 1 1000).mono fun _ _ h => ⟨by rw [h.1, b0], h.2.symm⟩)
            have C1 : Hid (∀ nn, Calls Tryz.prog 77 #[.string x.name] (W1.drewN nn) fun e w' => e = .returned (.bool true) ∧ w' = W1.drewN nn) := Lib.hid (fun nn => (refWordOk x.name HNX.out).mono fun _ _ h => ⟨by rw [h.1, b1], h.2.symm⟩)
            have C2 : Hid (∀ nn, Calls Tryz.prog 84 #[.int .i64 x.kind, .int .i64 0, .int .i64 5] (W1.drewN nn) fun e w' => e = .returned (.bool false) ∧ w' = W1.drewN nn) := Lib.hid (fun nn => (refIn_any x.kind 0 5).mono fun _ _ h => ⟨by rw [h.1, b2], h.2.symm⟩)
            have HF : Hid (okRoom x = false) := Lib.hid (by unfold okRoom; rw [b0, b1, b2]; simp)
            clear b0 b1 b2
            go_wp2
            go_quiet (first | (go_at_call 84; with_reducible refine Calls.quiet_of_same (C0.out _)) | (go_at_call 77; with_reducible refine Calls.quiet_of_same (C1.out _)) | (go_at_call 84; with_reducible refine Calls.quiet_of_same (C2.out _)))
            go_wp2
            go_ret
            exact HBAD.out _ (kdrewB _ _) (.inl HF.out)
          | true =>
            cases b3 : inB x.price 0 1073741824 with
            | false =>
              have C0 : Hid (∀ nn, Calls Tryz.prog 84 #[.int .i64 x.id, .int .i64 1, .int .i64 1000] (W1.drewN nn) fun e w' => e = .returned (.bool true) ∧ w' = W1.drewN nn) := Lib.hid (fun nn => (refIn_any x.id 1 1000).mono fun _ _ h => ⟨by rw [h.1, b0], h.2.symm⟩)
              have C1 : Hid (∀ nn, Calls Tryz.prog 77 #[.string x.name] (W1.drewN nn) fun e w' => e = .returned (.bool true) ∧ w' = W1.drewN nn) := Lib.hid (fun nn => (refWordOk x.name HNX.out).mono fun _ _ h => ⟨by rw [h.1, b1], h.2.symm⟩)
              have C2 : Hid (∀ nn, Calls Tryz.prog 84 #[.int .i64 x.kind, .int .i64 0, .int .i64 5] (W1.drewN nn) fun e w' => e = .returned (.bool true) ∧ w' = W1.drewN nn) := Lib.hid (fun nn => (refIn_any x.kind 0 5).mono fun _ _ h => ⟨by rw [h.1, b2], h.2.symm⟩)
              have C3 : Hid (∀ nn, Calls Tryz.prog 84 #[.int .i64 x.price, .int .i64 0, .int .i64 1073741824] (W1.drewN nn) fun e w' => e = .returned (.bool false) ∧ w' = W1.drewN nn) := Lib.hid (fun nn => (refIn_any x.price 0 1073741824).mono fun _ _ h => ⟨by rw [h.1, b3], h.2.symm⟩)
              have HF : Hid (okRoom x = false) := Lib.hid (by unfold okRoom; rw [b0, b1, b2, b3]; simp)
              clear b0 b1 b2 b3
              go_wp2
              go_quiet (first | (go_at_call 84; with_reducible refine Calls.quiet_of_same (C0.out _)) | (go_at_call 77; with_reducible refine Calls.quiet_of_same (C1.out _)) | (go_at_call 84; with_reducible refine Calls.quiet_of_same (C2.out _)) | (go_at_call 84; with_reducible refine Calls.quiet_of_same (C3.out _)))
              go_wp2
              go_ret
              exact HBAD.out _ (kdrewB _ _) (.inl HF.out)
            | true =>
              have C0 : Hid (∀ nn, Calls Tryz.prog 84 #[.int .i64 x.id, .int .i64 1, .int .i64 1000] (W1.drewN nn) fun e w' => e = .returned (.bool true) ∧ w' = W1.drewN nn) := Lib.hid (fun nn => (refIn_any x.id 1 1000).mono fun _ _ h => ⟨by rw [h.1, b0], h.2.symm⟩)
              have C1 : Hid (∀ nn, Calls Tryz.prog 77 #[.string x.name] (W1.drewN nn) fun e w' => e = .returned (.bool true) ∧ w' = W1.drewN nn) := Lib.hid (fun nn => (refWordOk x.name HNX.out).mono fun _ _ h => ⟨by rw [h.1, b1], h.2.symm⟩)
              have C2 : Hid (∀ nn, Calls Tryz.prog 84 #[.int .i64 x.kind, .int .i64 0, .int .i64 5] (W1.drewN nn) fun e w' => e = .returned (.bool true) ∧ w' = W1.drewN nn) := Lib.hid (fun nn => (refIn_any x.kind 0 5).mono fun _ _ h => ⟨by rw [h.1, b2], h.2.symm⟩)
              have C3 : Hid (∀ nn, Calls Tryz.prog 84 #[.int .i64 x.price, .int .i64 0, .int .i64 1073741824] (W1.drewN nn) fun e w' => e = .returned (.bool true) ∧ w' = W1.drewN nn) := Lib.hid (fun nn => (refIn_any x.price 0 1073741824).mono fun _ _ h => ⟨by rw [h.1, b3], h.2.symm⟩)
              have HBS : Hid (inB x.id 1 1000 = true ∧ wordOk x.name = true ∧ inB x.kind 0 5 = true ∧ inB x.price 0 1073741824 = true) := Lib.hid ⟨b0, b1, b2, b3⟩
              clear b0 b1 b2 b3
              by_cases hk0 : k = 0
              · have dk : decide (0 < (k : Int)) = false := by rw [decide_eq_false_iff_not]; omega
                have dk2 : decide (0 < k) = false := by rw [decide_eq_false_iff_not]; omega
                have HOR : Hid (∀ y, 0 < k → L[k - 1]? = some y → y.id < x.id) := Lib.hid (fun y h => by omega)
                clear hk0
                go_wp2
                go_quiet (first | (go_at_call 84; with_reducible refine Calls.quiet_of_same (C0.out _)) | (go_at_call 77; with_reducible refine Calls.quiet_of_same (C1.out _)) | (go_at_call 84; with_reducible refine Calls.quiet_of_same (C2.out _)) | (go_at_call 84; with_reducible refine Calls.quiet_of_same (C3.out _)))
                have HB2 : Hid ((W1.drewN nq).heap[B]? = some (.cells (roomC x).toArray 53 (0, 0))) := Lib.hid HB.out
                have HK2 : Hid (Keep (fun _ => False) W1 (W1.drewN nq)) := Lib.hid (kdrewB _ _)
                generalize W1.drewN nq = W2 at HB2 HK2 ⊢
                go_wp2
                go_loopw [5] (fun jv wq => ExR x W2 jv wq) (fun jv _ => 6 - (intOf jv).toNat)
                case atStart => exact ⟨0, by omega, rfl, fun i hi => by omega, Keep.refl _ _⟩
                case round =>
                  obtain ⟨j, hj, rfl, hex, hKj⟩ := hrel.ex
                  have HEX := Lib.hid hex; have HKJ := Lib.hid hKj
                  clear hex hKj hrel
                  have hblt : B < W2.heap.size := lt_of_block HB2.out
                  by_cases hj6 : j < 6
                  · have dj : decide (j < 6) = true := by simpa using hj6
                    have dj2 : decide ((j : Int) < 6) = true := by rw [decide_eq_true_eq]; omega
                    have cj : wr.cell? ⟨B, 4 + j, none⟩ = some (.int .i64 (exF x j)) := (HKJ.out.cell hblt (fun h => h) _).trans ((cell_of_row W2 B (4 + j) _ _ _ HB2.out).trans (exF_cell x hj6))
                    cases bj : inB (exF x j) 0 1000 with
                    | false =>
                      have HC := Lib.hid (fun W : World => (refIn_any (w := W) (exF x j) 0 1000))
                      rw [bj] at HC
                      have HF : Hid (okRoom x = false) := Lib.hid (okRoom_exit hj6 bj)
                      clear bj
                      go_wp2_with (go_at_call 84; (with_reducible refine (HC.out _).mono ?_); rintro e w' ⟨rfl, rfl⟩)
                      go_ret
                      exact HBAD.out _ (HK2.out.trans HKJ.out (fun _ h => h.elim)) (.inl HF.out)
                    | true =>
                      have HC := Lib.hid (fun W : World => (refIn_any (w := W) (exF x j) 0 1000))
                      rw [bj] at HC
                      have HN2 : Hid (∀ i, i < j + 1 → inB (exF x i) 0 1000 = true) := Lib.hid (fun i hi => by
                        by_cases e : i = j
                        · subst e; exact bj
                        · exact HEX.out i (by omega))
                      clear bj
                      go_wp2_with (go_at_call 84; (with_reducible refine (HC.out _).mono ?_); rintro e w' ⟨rfl, rfl⟩)
                      go_roundw
                      case rel => exact ⟨j + 1, by omega, by go_num, HN2.out, HKJ.out⟩
                      case measure => simp [intOf]; omega
                  · have dj : decide (j < 6) = false := by rw [decide_eq_false_iff_not]; omega
                    have dj2 : decide ((j : Int) < 6) = false := by rw [decide_eq_false_iff_not]; omega
                    have HNX2 : Hid (RiseTo okRoom RoomM.id L (k + 1)) := Lib.hid (HA.out.next HX.out (okRoom_all HBS.out (fun i hi => HEX.out i (by omega))) HOR.out)
                    go_wp2
                    go_roundw
                    case rel => exact ⟨k + 1, by omega, by go_num, HNX2.out, (HK1.out.trans HK2.out (fun _ h => h.elim)).trans HKJ.out (fun _ h => h.elim)⟩
                    case measure => simp [intOf]; omega
              · obtain ⟨m, hm⟩ : ∃ m, k = m + 1 := ⟨k - 1, by omega⟩
                obtain ⟨y, hy, hyc⟩ := HPRE.out m hm
                have z0 := hyc W1 HK1.out
                have dk : decide (0 < (k : Int)) = true := by rw [decide_eq_true_eq]; omega
                have dk2 : decide (0 < k) = true := by rw [decide_eq_true_eq]; omega
                have e1 : (k : Int) - 1 = (m : Int) := by omega
                have hml : m < L.length := by omega
                have HM := Lib.hid hm
                have HY := Lib.hid hy
                clear hm hy hyc hk0
                by_cases hle : x.id ≤ y.id
                · have dle : decide (x.id ≤ y.id) = true := by rw [decide_eq_true_eq]; exact hle
                  have HLE := Lib.hid hle
                  clear hle
                  go_wp2
                  go_quiet (first | (go_at_call 84; with_reducible refine Calls.quiet_of_same (C0.out _)) | (go_at_call 77; with_reducible refine Calls.quiet_of_same (C1.out _)) | (go_at_call 84; with_reducible refine Calls.quiet_of_same (C2.out _)) | (go_at_call 84; with_reducible refine Calls.quiet_of_same (C3.out _)))
                  go_wp2
                  go_ret
                  exact HBAD.out _ (kdrewB _ _) (.inr ⟨y, by have := HM.out; omega, by rw [show k - 1 = m by have := HM.out; omega]; exact HY.out, HLE.out⟩)
                · have dle : decide (x.id ≤ y.id) = false := by rw [decide_eq_false_iff_not]; exact hle
                  have HOR : Hid (∀ y, 0 < k → L[k - 1]? = some y → y.id < x.id) := Lib.hid (fun z _ hz => by rw [show k - 1 = m by have := HM.out; omega, HY.out] at hz; cases hz; omega)
                  clear hle
                  go_wp2
                  go_quiet (first | (go_at_call 84; with_reducible refine Calls.quiet_of_same (C0.out _)) | (go_at_call 77; with_reducible refine Calls.quiet_of_same (C1.out _)) | (go_at_call 84; with_reducible refine Calls.quiet_of_same (C2.out _)) | (go_at_call 84; with_reducible refine Calls.quiet_of_same (C3.out _)))
                  have HB2 : Hid ((W1.drewN nq).heap[B]? = some (.cells (roomC x).toArray 53 (0, 0))) := Lib.hid HB.out
                  have HK2 : Hid (Keep (fun _ => False) W1 (W1.drewN nq)) := Lib.hid (kdrewB _ _)
                  generalize W1.drewN nq = W2 at HB2 HK2 ⊢
                  go_wp2
                  go_loopw [5] (fun jv wq => ExR x W2 jv wq) (fun jv _ => 6 - (intOf jv).toNat)
                  case atStart => exact ⟨0, by omega, rfl, fun i hi => by omega, Keep.refl _ _⟩
                  case round =>
                    obtain ⟨j, hj, rfl, hex, hKj⟩ := hrel.ex
                    have HEX := Lib.hid hex; have HKJ := Lib.hid hKj
                    clear hex hKj hrel
                    have hblt : B < W2.heap.size := lt_of_block HB2.out
                    by_cases hj6 : j < 6
                    · have dj : decide (j < 6) = true := by simpa using hj6
                      have dj2 : decide ((j : Int) < 6) = true := by rw [decide_eq_true_eq]; omega
                      have cj : wr.cell? ⟨B, 4 + j, none⟩ = some (.int .i64 (exF x j)) := (HKJ.out.cell hblt (fun h => h) _).trans ((cell_of_row W2 B (4 + j) _ _ _ HB2.out).trans (exF_cell x hj6))
                      cases bj : inB (exF x j) 0 1000 with
                      | false =>
                        have HC := Lib.hid (fun W : World => (refIn_any (w := W) (exF x j) 0 1000))
                        rw [bj] at HC
                        have HF : Hid (okRoom x = false) := Lib.hid (okRoom_exit hj6 bj)
                        clear bj
                        go_wp2_with (go_at_call 84; (with_reducible refine (HC.out _).mono ?_); rintro e w' ⟨rfl, rfl⟩)
                        go_ret
                        exact HBAD.out _ (HK2.out.trans HKJ.out (fun _ h => h.elim)) (.inl HF.out)
                      | true =>
                        have HC := Lib.hid (fun W : World => (refIn_any (w := W) (exF x j) 0 1000))
                        rw [bj] at HC
                        have HN2 : Hid (∀ i, i < j + 1 → inB (exF x i) 0 1000 = true) := Lib.hid (fun i hi => by
                          by_cases e : i = j
                          · subst e; exact bj
                          · exact HEX.out i (by omega))
                        clear bj
                        go_wp2_with (go_at_call 84; (with_reducible refine (HC.out _).mono ?_); rintro e w' ⟨rfl, rfl⟩)
                        go_roundw
                        case rel => exact ⟨j + 1, by omega, by go_num, HN2.out, HKJ.out⟩
                        case measure => simp [intOf]; omega
                    · have dj : decide (j < 6) = false := by rw [decide_eq_false_iff_not]; omega
                      have dj2 : decide ((j : Int) < 6) = false := by rw [decide_eq_false_iff_not]; omega
                      have HNX2 : Hid (RiseTo okRoom RoomM.id L (k + 1)) := Lib.hid (HA.out.next HX.out (okRoom_all HBS.out (fun i hi => HEX.out i (by omega))) HOR.out)
                      go_wp2
                      go_roundw
                      case rel => exact ⟨k + 1, by omega, by go_num, HNX2.out, (HK1.out.trans HK2.out (fun _ h => h.elim)).trans HKJ.out (fun _ h => h.elim)⟩
                      case measure => simp [intOf]; omega
    · have hd1 : decide (k < L.length) = false := by rw [decide_eq_false_iff_not]; omega
      have HR : Hid (Rise okRoom RoomM.id L) := Lib.hid (RiseTo.all.2 (by have := HA.out; rwa [show k = L.length by omega] at this))
      by_cases h60 : L.length ≤ 60
      · have d60 : decide ((L.length : Int) ≤ 60) = true := by rw [decide_eq_true_eq]; omega
        have d61 : decide (L.length ≤ 60) = true := by rw [decide_eq_true_eq]; omega
        go_wp2
        go_ret
        exact ⟨true, rfl, ⟨fun _ => ⟨HR.out, h60⟩, fun _ => rfl⟩, HK.out⟩
      · have d60 : decide ((L.length : Int) ≤ 60) = false := by rw [decide_eq_false_iff_not]; omega
        have d61 : decide (L.length ≤ 60) = false := by rw [decide_eq_false_iff_not]; omega
        go_wp2
        go_ret
        exact ⟨false, rfl, ⟨fun (h0 : false = true) => (by cases h0), fun h0 => absurd h0.2 h60⟩, HK.out⟩
end Go.Proofs.YtcodbomgodkcmaaGreatDoor.Wd
