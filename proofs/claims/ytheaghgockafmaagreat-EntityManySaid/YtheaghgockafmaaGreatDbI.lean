/- World files: is a row one? (made by tools/gendi.py). -/
import Derived.Test.YtheaghgockafmaaGreatDbU
import Derived.Test.YtheaghgockafmaaGreatDbW
namespace Go.Proofs.YtheaghgockafmaaGreat.Wd
open Go.RowKit Go.Maps Go.Proofs.YtheaghgockafmaaGreat Go.Proofs.YtheaghgockafmaaGreat.Lin
set_option maxRecDepth 100000

set_option maxHeartbeats 1000000 in
theorem allInt_any {w : World} {v : Value} {L : List Int} (h : Seen w 1 v L.length (icells L)) (p : Int → Bool) {g : Nat} {lb : Array Value} (eg : ∀ args w, (callFunc g args).run Tryz.prog w = .ok (.enter g args) w)
    (hp : ∀ x ∈ L, ∀ w', Keep (fun _ => False) w w' → Calls Tryz.prog g (#[.int .i64 x] ++ lb) w' fun e w'' => e = .returned (.bool (p x)) ∧ Keep (fun _ => False) w' w'') :
    Calls Tryz.prog 282 #[v, .func (.func g) #[] lb] w fun e w' => e = .returned (.bool (L.all p)) ∧ Keep (fun _ => False) w w' := by
  obtain ⟨_, a, cap, rfl, hc1, hc2, hcell⟩ := h
  unfold maxLen at hc2
  have HC := Lib.hid hcell; have HP := Lib.hid hp
  clear hcell hp
  go_enter Tryz.func282, Tryz.ntmps282
  go_wp2
  go_loopw [6, 9] (fun _ iv wr => AlR p L w iv wr) (fun _ iv _ => L.length - (intOf iv).toNat)
  case atStart => exact ⟨0, by omega, rfl, fun j a hj => by omega, Keep.refl _ _⟩
  case round =>
    obtain ⟨k, hk, rfl, hall, hK⟩ := hrel.ex
    have HA := Lib.hid hall; have HK := Lib.hid hK
    clear hall hK hrel
    by_cases hlt : k < L.length
    · have hd1 : decide (k < L.length) = true := by simpa using hlt
      obtain ⟨x, hx⟩ : ∃ x, L[k]? = some x := ⟨_, List.getElem?_eq_getElem hlt⟩
      obtain ⟨g1, off, rfl, hg, q⟩ := HC.out.resolve_left (by omega)
      have q0 : wr.cell? ⟨g1, off + k, none⟩ = some (.int .i64 x) := (HK.out.cell hg (fun h => h) _).trans (q k _ (icells_get hx))
      have hm := List.mem_of_getElem? hx
      have HX := Lib.hid hx
      have HCL := Lib.hid (fun w9 (k9 : Keep (fun _ => False) w w9) => HP.out x hm w9 k9)
      clear hx q hm
      cases hpx : p x with
      | true =>
        have HPX := Lib.hid hpx
        rw [hpx] at HCL
        clear hpx
        go_wp2_with (go_at_fn g; refine (HCL.out _ HK.out).mono ?_; rintro e w9 ⟨rfl, k9⟩; have K9 := Lib.hid k9; clear k9)
        go_roundw
        case rel => exact ⟨k + 1, by omega, by go_num, all_next HA.out HX.out HPX.out, HK.out.trans K9.out (fun _ h => h.elim)⟩
        case measure => simp [intOf]; omega
      | false =>
        have HPX := Lib.hid hpx
        rw [hpx] at HCL
        clear hpx
        go_wp2_with (go_at_fn g; refine (HCL.out _ HK.out).mono ?_; rintro e w9 ⟨rfl, k9⟩; have K9 := Lib.hid k9; clear k9)
        go_ret
        exact ⟨by rw [all_bad HX.out HPX.out]; rfl, HK.out.trans K9.out (fun _ h => h.elim)⟩
    · have hd1 : decide (k < L.length) = false := by rw [decide_eq_false_iff_not]; omega
      go_wp2
      go_ret
      exact ⟨by rw [all_end HA.out (by omega)]; rfl, HK.out⟩

theorem within_int {w : World} (n a b : Int) : Calls Tryz.prog 280 #[.int .i64 n, .int .i64 a, .int .i64 b] w fun e w' => e = .returned (.bool (inB n a b)) ∧ w = w' := by
  unfold inB
  by_cases h1 : a ≤ n
  · have d1 : decide (a ≤ n) = true := by simpa using h1
    rw [d1, Bool.true_and]
    go_enter Tryz.func280, Tryz.ntmps280
    go_wp2
    go_ret
    exact ⟨rfl, rfl⟩
  · have d1 : decide (a ≤ n) = false := by simpa using h1
    rw [d1, Bool.false_and]
    go_enter Tryz.func280, Tryz.ntmps280
    go_wp2
    go_ret
    exact ⟨rfl, rfl⟩

theorem within_int64 {w : World} (n a b : Int) : Calls Tryz.prog 288 #[.int .i64 n, .int .i64 a, .int .i64 b] w fun e w' => e = .returned (.bool (inB n a b)) ∧ w = w' := by
  unfold inB
  by_cases h1 : a ≤ n
  · have d1 : decide (a ≤ n) = true := by simpa using h1
    rw [d1, Bool.true_and]
    go_enter Tryz.func288, Tryz.ntmps288
    go_wp2
    go_ret
    exact ⟨rfl, rfl⟩
  · have d1 : decide (a ≤ n) = false := by simpa using h1
    rw [d1, Bool.false_and]
    go_enter Tryz.func288, Tryz.ntmps288
    go_wp2
    go_ret
    exact ⟨rfl, rfl⟩

theorem isId_any {w : World} (n : Int) : Calls Tryz.prog 279 #[.int .i64 n] w fun e w' => e = .returned (.bool (inB n 1 1000)) ∧ w = w' := by
  have HW := Lib.hid (within_int (w := w) n 1 1000)
  generalize inB n 1 1000 = z at *
  go_enter Tryz.func279, Tryz.ntmps279
  go_wp2_with (go_at_call 280; (with_reducible refine HW.out.mono ?_); rintro e w9 ⟨rfl, rfl⟩)
  go_ret
  exact ⟨rfl, rfl⟩
theorem Tryz.en_isId : ∀ args w, (callFunc 279 args).run Tryz.prog w = .ok (.enter 279 args) w := enters_of Tryz.func279 (by kernel_rfl) rfl

theorem isPower_any {w : World} (n : Int) : Calls Tryz.prog 286 #[.int .i64 n] w fun e w' => e = .returned (.bool (inB n 0 100)) ∧ w = w' := by
  have HW := Lib.hid (within_int64 (w := w) n 0 100)
  generalize inB n 0 100 = z at *
  go_enter Tryz.func286, Tryz.ntmps286
  go_wp2_with (go_at_call 288; (with_reducible refine HW.out.mono ?_); rintro e w9 ⟨rfl, rfl⟩)
  go_ret
  exact ⟨rfl, rfl⟩
theorem Tryz.en_isPower : ∀ args w, (callFunc 286 args).run Tryz.prog w = .ok (.enter 286 args) w := enters_of Tryz.func286 (by kernel_rfl) rfl

theorem isGold_any {w : World} (n : Int) : Calls Tryz.prog 281 #[.int .i64 n] w fun e w' => e = .returned (.bool (inB n 0 1073741824)) ∧ w = w' := by
  have HW := Lib.hid (within_int64 (w := w) n 0 1073741824)
  generalize inB n 0 1073741824 = z at *
  go_enter Tryz.func281, Tryz.ntmps281
  go_wp2_with (go_at_call 288; (with_reducible refine HW.out.mono ?_); rintro e w9 ⟨rfl, rfl⟩)
  go_ret
  exact ⟨rfl, rfl⟩
theorem Tryz.en_isGold : ∀ args w, (callFunc 281 args).run Tryz.prog w = .ok (.enter 281 args) w := enters_of Tryz.func281 (by kernel_rfl) rfl

theorem isIdOrNone_any {w : World} (n : Int) : Calls Tryz.prog 283 #[.int .i64 n] w fun e w' => e = .returned (.bool (inB n 0 1000)) ∧ w = w' := by
  have HW := Lib.hid (isId_any (w := w) n)
  by_cases h : n = 0
  · subst h
    clear HW
    go_enter Tryz.func283, Tryz.ntmps283
    go_wp2
    go_ret
    exact ⟨rfl, rfl⟩
  · have hn : (n == 0) = false := by rw [beq_eq_false_iff_ne]; exact h
    have e : inB n 0 1000 = inB n 1 1000 := by unfold inB; congr 1; rw [decide_eq_decide]; omega
    rw [e]
    clear e h
    generalize inB n 1 1000 = z at *
    go_enter Tryz.func283, Tryz.ntmps283
    go_wp2_with (go_at_call 279; (with_reducible refine HW.out.mono ?_); rintro e w9 ⟨rfl, rfl⟩)
    go_ret
    exact ⟨rfl, rfl⟩
theorem Tryz.en_isIdOrNone : ∀ args w, (callFunc 283 args).run Tryz.prog w = .ok (.enter 283 args) w := enters_of Tryz.func283 (by kernel_rfl) rfl

theorem wordOk_prog {w : World} (s : ByteArray) (hs : s.size ≤ 1000000) : Calls Tryz.prog 223 #[.string s] w fun e w' => e = .returned (.bool (wordOk s)) ∧ w = w' := word_any s hs
def exL (x : RoomM) : List Int := [x.e0, x.e1, x.e2, x.e3, x.e4, x.e5]
theorem okRoom_prog (x : RoomM) : okRoom x = (inB x.id 1 1000 && wordOk x.name && inB x.kind 0 5 && inB x.price 0 1073741824 && (exL x).all (fun n => inB n 0 1000)) := by
  unfold okRoom gMax exL
  simp only [List.all_cons, List.all_nil, Bool.and_true, Bool.and_assoc]
theorem okRecU_prog (x : RecM) : okRecU x = (inB x.out 1 1000 && inB (x.needs.length : Int) 1 5 && x.needs.all (fun n => inB n 1 1000)) := by
  unfold okRecU inB
  congr 2
  · congr 1 <;> (rw [decide_eq_decide]; omega)
theorem okShopU_prog (x : ShopM) : okShopU x = (inB x.room 1 1000 && inB x.till 0 1073741824 && decide ((x.items.length : Int) ≤ 8) && x.items.all (fun n => inB n 1 1000)) := by
  unfold okShopU gMax
  congr 2
  rw [decide_eq_decide]; omega

set_option maxHeartbeats 2000000 in
theorem isRoom_any {w : World} (x : RoomM) (hn : x.name.size ≤ 1000000) : Calls Tryz.prog 185 #[.agg (roomC x).toArray] w fun e w' => e = .returned (.bool (okRoom x)) ∧ Keep (fun _ => False) w w' := by
  have hok : okRoom x = (inB x.id 1 1000 && wordOk x.name && inB x.kind 0 5 && inB x.price 0 1073741824 && (exL x).all (fun n => inB n 0 1000)) := okRoom_prog x
  rw [hok]
  clear hok
  have HNM := Lib.hid hn
  have HK : Hid (Keep (fun _ => False) w (w.alloc (.cells (roomC x).toArray 127))) := Lib.hid ((Keep.refl _ w).alloc _)
  have C0 := Lib.hid (fun w9 : World => isId_any (w := w9) x.id)
  have C1 := Lib.hid (fun w9 : World => wordOk_prog (w := w9) x.name HNM.out)
  have C2 := Lib.hid (fun w9 : World => within_int (w := w9) x.kind 0 5)
  have C3 := Lib.hid (fun w9 : World => isGold_any (w := w9) x.price)
  have hse : Seen (w.alloc (.cells (roomC x).toArray 127)) 1 (.slice (some ⟨w.heap.size, 4, none⟩) 6 6) (exL x).length (icells (exL x)) := ⟨rfl, _, _, rfl, by simp [exL], by simp [maxLen], .inr ⟨w.heap.size, 4, rfl, by simp, fun j u hu => by
    rw [cell_of_row _ _ _ _ _ _ (heap_alloc_new w _)]
    match j, hu with
    | 0, hu => exact hu
    | 1, hu => exact hu
    | 2, hu => exact hu
    | 3, hu => exact hu
    | 4, hu => exact hu
    | 5, hu => exact hu
    | j + 6, hu => simp [exL, icells] at hu⟩⟩
  have HAL := Lib.hid (allInt_any hse (fun n => inB n 0 1000) (lb := #[]) Tryz.en_isIdOrNone (fun n _ w9 k9 => (isIdOrNone_any n).mono fun e w' hh => ⟨hh.1, Keep.of_eq hh.2⟩))
  clear hse
  obtain ⟨b0, hb0⟩ : ∃ b, b = (inB x.id 1 1000) := ⟨_, rfl⟩
  obtain ⟨b1, hb1⟩ : ∃ b, b = (wordOk x.name) := ⟨_, rfl⟩
  obtain ⟨b2, hb2⟩ : ∃ b, b = (inB x.kind 0 5) := ⟨_, rfl⟩
  obtain ⟨b3, hb3⟩ : ∃ b, b = (inB x.price 0 1073741824) := ⟨_, rfl⟩
  obtain ⟨b4, hb4⟩ : ∃ b, b = ((exL x).all (fun n => inB n 0 1000)) := ⟨_, rfl⟩
  rw [← hb0] at C0 ⊢
  rw [← hb1] at C1 ⊢
  rw [← hb2] at C2 ⊢
  rw [← hb3] at C3 ⊢
  rw [← hb4] at HAL ⊢
  clear hb0 hb1 hb2 hb3 hb4 hn
  simp only [roomC] at HK HAL ⊢
  cases b0 with
  | false =>
    go_enter Tryz.func185, Tryz.ntmps185
    go_wp2_with (first | (go_at_call 279; (with_reducible refine (C0.out _).mono ?_); rintro e w9 ⟨rfl, rfl⟩))
    go_ret
    exact ⟨rfl, HK.out⟩
  | true =>
    cases b1 with
    | false =>
      go_enter Tryz.func185, Tryz.ntmps185
      go_wp2_with (first | (go_at_call 279; (with_reducible refine (C0.out _).mono ?_); rintro e w9 ⟨rfl, rfl⟩) | (go_at_call 223; (with_reducible refine (C1.out _).mono ?_); rintro e w9 ⟨rfl, rfl⟩))
      go_ret
      exact ⟨rfl, HK.out⟩
    | true =>
      cases b2 with
      | false =>
        go_enter Tryz.func185, Tryz.ntmps185
        go_wp2_with (first | (go_at_call 279; (with_reducible refine (C0.out _).mono ?_); rintro e w9 ⟨rfl, rfl⟩) | (go_at_call 223; (with_reducible refine (C1.out _).mono ?_); rintro e w9 ⟨rfl, rfl⟩) | (go_at_call 280; (with_reducible refine (C2.out _).mono ?_); rintro e w9 ⟨rfl, rfl⟩))
        go_ret
        exact ⟨rfl, HK.out⟩
      | true =>
        cases b3 with
        | false =>
          go_enter Tryz.func185, Tryz.ntmps185
          go_wp2_with (first | (go_at_call 279; (with_reducible refine (C0.out _).mono ?_); rintro e w9 ⟨rfl, rfl⟩) | (go_at_call 223; (with_reducible refine (C1.out _).mono ?_); rintro e w9 ⟨rfl, rfl⟩) | (go_at_call 280; (with_reducible refine (C2.out _).mono ?_); rintro e w9 ⟨rfl, rfl⟩) | (go_at_call 281; (with_reducible refine (C3.out _).mono ?_); rintro e w9 ⟨rfl, rfl⟩))
          go_ret
          exact ⟨rfl, HK.out⟩
        | true =>
          go_enter Tryz.func185, Tryz.ntmps185
          go_wp2_with (first | (go_at_call 279; (with_reducible refine (C0.out _).mono ?_); rintro e w9 ⟨rfl, rfl⟩) | (go_at_call 223; (with_reducible refine (C1.out _).mono ?_); rintro e w9 ⟨rfl, rfl⟩) | (go_at_call 280; (with_reducible refine (C2.out _).mono ?_); rintro e w9 ⟨rfl, rfl⟩) | (go_at_call 281; (with_reducible refine (C3.out _).mono ?_); rintro e w9 ⟨rfl, rfl⟩) | (go_at_call 282; (refine HAL.out.mono ?_); rintro e w9 ⟨rfl, k9⟩; have HK := Lib.hid (HK.out.trans k9 (fun _ h => h.elim)); clear k9))
          go_ret
          exact ⟨rfl, HK.out⟩
theorem Tryz.en_isRoom : ∀ args w, (callFunc 185 args).run Tryz.prog w = .ok (.enter 185 args) w := enters_of Tryz.func185 (by kernel_rfl) rfl

set_option maxHeartbeats 2000000 in
theorem isProto_any {w : World} (x : ProtoM) (hn : x.name.size ≤ 1000000) : Calls Tryz.prog 188 #[.agg (protoC x).toArray] w fun e w' => e = .returned (.bool (okProto x)) ∧ Keep (fun _ => False) w w' := by
  have hok : okProto x = (inB x.id 1 1000 && wordOk x.name && inB x.slot 0 2 && inB x.power 0 100 && inB x.price 0 1073741824) := by unfold okProto gMax; rfl
  rw [hok]
  clear hok
  have HNM := Lib.hid hn
  have HK : Hid (Keep (fun _ => False) w (w.alloc (.cells (protoC x).toArray 133))) := Lib.hid ((Keep.refl _ w).alloc _)
  have C0 := Lib.hid (fun w9 : World => isId_any (w := w9) x.id)
  have C1 := Lib.hid (fun w9 : World => wordOk_prog (w := w9) x.name HNM.out)
  have C2 := Lib.hid (fun w9 : World => within_int (w := w9) x.slot 0 2)
  have C3 := Lib.hid (fun w9 : World => isPower_any (w := w9) x.power)
  have C4 := Lib.hid (fun w9 : World => isGold_any (w := w9) x.price)
  obtain ⟨b0, hb0⟩ : ∃ b, b = (inB x.id 1 1000) := ⟨_, rfl⟩
  obtain ⟨b1, hb1⟩ : ∃ b, b = (wordOk x.name) := ⟨_, rfl⟩
  obtain ⟨b2, hb2⟩ : ∃ b, b = (inB x.slot 0 2) := ⟨_, rfl⟩
  obtain ⟨b3, hb3⟩ : ∃ b, b = (inB x.power 0 100) := ⟨_, rfl⟩
  obtain ⟨b4, hb4⟩ : ∃ b, b = (inB x.price 0 1073741824) := ⟨_, rfl⟩
  rw [← hb0] at C0 ⊢
  rw [← hb1] at C1 ⊢
  rw [← hb2] at C2 ⊢
  rw [← hb3] at C3 ⊢
  rw [← hb4] at C4 ⊢
  clear hb0 hb1 hb2 hb3 hb4 hn
  simp only [protoC] at HK ⊢
  cases b0 with
  | false =>
    go_enter Tryz.func188, Tryz.ntmps188
    go_wp2_with (first | (go_at_call 279; (with_reducible refine (C0.out _).mono ?_); rintro e w9 ⟨rfl, rfl⟩))
    go_ret
    exact ⟨rfl, HK.out⟩
  | true =>
    cases b1 with
    | false =>
      go_enter Tryz.func188, Tryz.ntmps188
      go_wp2_with (first | (go_at_call 279; (with_reducible refine (C0.out _).mono ?_); rintro e w9 ⟨rfl, rfl⟩) | (go_at_call 223; (with_reducible refine (C1.out _).mono ?_); rintro e w9 ⟨rfl, rfl⟩))
      go_ret
      exact ⟨rfl, HK.out⟩
    | true =>
      cases b2 with
      | false =>
        go_enter Tryz.func188, Tryz.ntmps188
        go_wp2_with (first | (go_at_call 279; (with_reducible refine (C0.out _).mono ?_); rintro e w9 ⟨rfl, rfl⟩) | (go_at_call 223; (with_reducible refine (C1.out _).mono ?_); rintro e w9 ⟨rfl, rfl⟩) | (go_at_call 280; (with_reducible refine (C2.out _).mono ?_); rintro e w9 ⟨rfl, rfl⟩))
        go_ret
        exact ⟨rfl, HK.out⟩
      | true =>
        cases b3 with
        | false =>
          go_enter Tryz.func188, Tryz.ntmps188
          go_wp2_with (first | (go_at_call 279; (with_reducible refine (C0.out _).mono ?_); rintro e w9 ⟨rfl, rfl⟩) | (go_at_call 223; (with_reducible refine (C1.out _).mono ?_); rintro e w9 ⟨rfl, rfl⟩) | (go_at_call 280; (with_reducible refine (C2.out _).mono ?_); rintro e w9 ⟨rfl, rfl⟩) | (go_at_call 286; (with_reducible refine (C3.out _).mono ?_); rintro e w9 ⟨rfl, rfl⟩))
          go_ret
          exact ⟨rfl, HK.out⟩
        | true =>
          go_enter Tryz.func188, Tryz.ntmps188
          go_wp2_with (first | (go_at_call 279; (with_reducible refine (C0.out _).mono ?_); rintro e w9 ⟨rfl, rfl⟩) | (go_at_call 223; (with_reducible refine (C1.out _).mono ?_); rintro e w9 ⟨rfl, rfl⟩) | (go_at_call 280; (with_reducible refine (C2.out _).mono ?_); rintro e w9 ⟨rfl, rfl⟩) | (go_at_call 286; (with_reducible refine (C3.out _).mono ?_); rintro e w9 ⟨rfl, rfl⟩) | (go_at_call 281; (with_reducible refine (C4.out _).mono ?_); rintro e w9 ⟨rfl, rfl⟩))
          go_ret
          exact ⟨rfl, HK.out⟩
theorem Tryz.en_isProto : ∀ args w, (callFunc 188 args).run Tryz.prog w = .ok (.enter 188 args) w := enters_of Tryz.func188 (by kernel_rfl) rfl

set_option maxHeartbeats 2000000 in
theorem isMob_any {w : World} (x : MobPM) (hn : x.name.size ≤ 1000000) : Calls Tryz.prog 191 #[.agg (mobpC x).toArray] w fun e w' => e = .returned (.bool (okMobP x)) ∧ Keep (fun _ => False) w w' := by
  have hok : okMobP x = (inB x.id 1 1000 && wordOk x.name && inB x.home 1 1000 && inB x.hp 1 10000 && inB x.power 0 100 && inB x.xp 0 10000 && inB x.gold 0 1073741824) := by unfold okMobP gMax; rfl
  rw [hok]
  clear hok
  have HNM := Lib.hid hn
  have HK : Hid (Keep (fun _ => False) w (w.alloc (.cells (mobpC x).toArray 105))) := Lib.hid ((Keep.refl _ w).alloc _)
  have C0 := Lib.hid (fun w9 : World => isId_any (w := w9) x.id)
  have C1 := Lib.hid (fun w9 : World => wordOk_prog (w := w9) x.name HNM.out)
  have C2 := Lib.hid (fun w9 : World => isId_any (w := w9) x.home)
  have C3 := Lib.hid (fun w9 : World => within_int64 (w := w9) x.hp 1 10000)
  have C4 := Lib.hid (fun w9 : World => isPower_any (w := w9) x.power)
  have C5 := Lib.hid (fun w9 : World => within_int64 (w := w9) x.xp 0 10000)
  have C6 := Lib.hid (fun w9 : World => isGold_any (w := w9) x.gold)
  obtain ⟨b0, hb0⟩ : ∃ b, b = (inB x.id 1 1000) := ⟨_, rfl⟩
  obtain ⟨b1, hb1⟩ : ∃ b, b = (wordOk x.name) := ⟨_, rfl⟩
  obtain ⟨b2, hb2⟩ : ∃ b, b = (inB x.home 1 1000) := ⟨_, rfl⟩
  obtain ⟨b3, hb3⟩ : ∃ b, b = (inB x.hp 1 10000) := ⟨_, rfl⟩
  obtain ⟨b4, hb4⟩ : ∃ b, b = (inB x.power 0 100) := ⟨_, rfl⟩
  obtain ⟨b5, hb5⟩ : ∃ b, b = (inB x.xp 0 10000) := ⟨_, rfl⟩
  obtain ⟨b6, hb6⟩ : ∃ b, b = (inB x.gold 0 1073741824) := ⟨_, rfl⟩
  rw [← hb0] at C0 ⊢
  rw [← hb1] at C1 ⊢
  rw [← hb2] at C2 ⊢
  rw [← hb3] at C3 ⊢
  rw [← hb4] at C4 ⊢
  rw [← hb5] at C5 ⊢
  rw [← hb6] at C6 ⊢
  clear hb0 hb1 hb2 hb3 hb4 hb5 hb6 hn
  simp only [mobpC] at HK ⊢
  cases b0 with
  | false =>
    go_enter Tryz.func191, Tryz.ntmps191
    go_wp2_with (first | (go_at_call 279; (with_reducible refine (C0.out _).mono ?_); rintro e w9 ⟨rfl, rfl⟩))
    go_ret
    exact ⟨rfl, HK.out⟩
  | true =>
    cases b1 with
    | false =>
      go_enter Tryz.func191, Tryz.ntmps191
      go_wp2_with (first | (go_at_call 279; (with_reducible refine (C0.out _).mono ?_); rintro e w9 ⟨rfl, rfl⟩) | (go_at_call 223; (with_reducible refine (C1.out _).mono ?_); rintro e w9 ⟨rfl, rfl⟩))
      go_ret
      exact ⟨rfl, HK.out⟩
    | true =>
      cases b2 with
      | false =>
        go_enter Tryz.func191, Tryz.ntmps191
        go_wp2_with (first | (go_at_call 279; (with_reducible refine (C0.out _).mono ?_); rintro e w9 ⟨rfl, rfl⟩) | (go_at_call 223; (with_reducible refine (C1.out _).mono ?_); rintro e w9 ⟨rfl, rfl⟩) | (go_at_call 279; (with_reducible refine (C2.out _).mono ?_); rintro e w9 ⟨rfl, rfl⟩))
        go_ret
        exact ⟨rfl, HK.out⟩
      | true =>
        cases b3 with
        | false =>
          go_enter Tryz.func191, Tryz.ntmps191
          go_wp2_with (first | (go_at_call 279; (with_reducible refine (C0.out _).mono ?_); rintro e w9 ⟨rfl, rfl⟩) | (go_at_call 223; (with_reducible refine (C1.out _).mono ?_); rintro e w9 ⟨rfl, rfl⟩) | (go_at_call 279; (with_reducible refine (C2.out _).mono ?_); rintro e w9 ⟨rfl, rfl⟩) | (go_at_call 288; (with_reducible refine (C3.out _).mono ?_); rintro e w9 ⟨rfl, rfl⟩))
          go_ret
          exact ⟨rfl, HK.out⟩
        | true =>
          cases b4 with
          | false =>
            go_enter Tryz.func191, Tryz.ntmps191
            go_wp2_with (first | (go_at_call 279; (with_reducible refine (C0.out _).mono ?_); rintro e w9 ⟨rfl, rfl⟩) | (go_at_call 223; (with_reducible refine (C1.out _).mono ?_); rintro e w9 ⟨rfl, rfl⟩) | (go_at_call 279; (with_reducible refine (C2.out _).mono ?_); rintro e w9 ⟨rfl, rfl⟩) | (go_at_call 288; (with_reducible refine (C3.out _).mono ?_); rintro e w9 ⟨rfl, rfl⟩) | (go_at_call 286; (with_reducible refine (C4.out _).mono ?_); rintro e w9 ⟨rfl, rfl⟩))
            go_ret
            exact ⟨rfl, HK.out⟩
          | true =>
            cases b5 with
            | false =>
              go_enter Tryz.func191, Tryz.ntmps191
              go_wp2_with (first | (go_at_call 279; (with_reducible refine (C0.out _).mono ?_); rintro e w9 ⟨rfl, rfl⟩) | (go_at_call 223; (with_reducible refine (C1.out _).mono ?_); rintro e w9 ⟨rfl, rfl⟩) | (go_at_call 279; (with_reducible refine (C2.out _).mono ?_); rintro e w9 ⟨rfl, rfl⟩) | (go_at_call 288; (with_reducible refine (C3.out _).mono ?_); rintro e w9 ⟨rfl, rfl⟩) | (go_at_call 286; (with_reducible refine (C4.out _).mono ?_); rintro e w9 ⟨rfl, rfl⟩) | (go_at_call 288; (with_reducible refine (C5.out _).mono ?_); rintro e w9 ⟨rfl, rfl⟩))
              go_ret
              exact ⟨rfl, HK.out⟩
            | true =>
              go_enter Tryz.func191, Tryz.ntmps191
              go_wp2_with (first | (go_at_call 279; (with_reducible refine (C0.out _).mono ?_); rintro e w9 ⟨rfl, rfl⟩) | (go_at_call 223; (with_reducible refine (C1.out _).mono ?_); rintro e w9 ⟨rfl, rfl⟩) | (go_at_call 279; (with_reducible refine (C2.out _).mono ?_); rintro e w9 ⟨rfl, rfl⟩) | (go_at_call 288; (with_reducible refine (C3.out _).mono ?_); rintro e w9 ⟨rfl, rfl⟩) | (go_at_call 286; (with_reducible refine (C4.out _).mono ?_); rintro e w9 ⟨rfl, rfl⟩) | (go_at_call 288; (with_reducible refine (C5.out _).mono ?_); rintro e w9 ⟨rfl, rfl⟩) | (go_at_call 281; (with_reducible refine (C6.out _).mono ?_); rintro e w9 ⟨rfl, rfl⟩))
              go_ret
              exact ⟨rfl, HK.out⟩
theorem Tryz.en_isMob : ∀ args w, (callFunc 191 args).run Tryz.prog w = .ok (.enter 191 args) w := enters_of Tryz.func191 (by kernel_rfl) rfl

set_option maxHeartbeats 2000000 in
theorem isRecipe_any {w : World} (x : RecM) {v : Value} (hv : Seen w 1 v x.needs.length (icells x.needs)) : Calls Tryz.prog 290 #[.agg (recC (x, v)).toArray] w fun e w' => e = .returned (.bool (okRecU x)) ∧ Keep (fun _ => False) w w' := by
  have hok : okRecU x = (inB x.out 1 1000 && inB (x.needs.length : Int) 1 5 && x.needs.all (fun n => inB n 1 1000)) := okRecU_prog x
  rw [hok]
  clear hok
  obtain ⟨hl1, va, vc, rfl, hv1, hv2, hv3⟩ := hv
  have HV : Hid (Seen w 1 (.slice va x.needs.length vc) x.needs.length (icells x.needs)) := Lib.hid ⟨hl1, va, vc, rfl, hv1, hv2, hv3⟩
  unfold maxLen at hv2
  clear hv3 hl1
  have HK : Hid (Keep (fun _ => False) w (w.alloc (.cells (recC (x, .slice va x.needs.length vc)).toArray 135))) := Lib.hid ((Keep.refl _ w).alloc _)
  have C0 := Lib.hid (fun w9 : World => isId_any (w := w9) x.out)
  have C1 := Lib.hid (fun w9 : World => within_int (w := w9) (x.needs.length : Int) 1 5)
  have hse : Seen (w.alloc (.cells (recC (x, .slice va x.needs.length vc)).toArray 135)) 1 (.slice va x.needs.length vc) (x.needs).length (icells (x.needs)) := HV.out.keep HK.out (fun _ _ _ h => h)
  have HAL := Lib.hid (allInt_any hse (fun n => inB n 1 1000) (lb := #[]) Tryz.en_isId (fun n _ w9 k9 => (isId_any n).mono fun e w' hh => ⟨hh.1, Keep.of_eq hh.2⟩))
  clear hse
  obtain ⟨b0, hb0⟩ : ∃ b, b = (inB x.out 1 1000) := ⟨_, rfl⟩
  obtain ⟨b1, hb1⟩ : ∃ b, b = (inB (x.needs.length : Int) 1 5) := ⟨_, rfl⟩
  obtain ⟨b2, hb2⟩ : ∃ b, b = (x.needs.all (fun n => inB n 1 1000)) := ⟨_, rfl⟩
  rw [← hb0] at C0 ⊢
  rw [← hb1] at C1 ⊢
  rw [← hb2] at HAL ⊢
  clear hb0 hb1 hb2
  simp only [recC] at HK HAL ⊢
  cases b0 with
  | false =>
    go_enter Tryz.func290, Tryz.ntmps290
    go_wp2_with (first | (go_at_call 279; (with_reducible refine (C0.out _).mono ?_); rintro e w9 ⟨rfl, rfl⟩))
    go_ret
    exact ⟨rfl, HK.out⟩
  | true =>
    cases b1 with
    | false =>
      go_enter Tryz.func290, Tryz.ntmps290
      go_wp2_with (first | (go_at_call 279; (with_reducible refine (C0.out _).mono ?_); rintro e w9 ⟨rfl, rfl⟩) | (go_at_call 280; (with_reducible refine (C1.out _).mono ?_); rintro e w9 ⟨rfl, rfl⟩))
      go_ret
      exact ⟨rfl, HK.out⟩
    | true =>
      go_enter Tryz.func290, Tryz.ntmps290
      go_wp2_with (first | (go_at_call 279; (with_reducible refine (C0.out _).mono ?_); rintro e w9 ⟨rfl, rfl⟩) | (go_at_call 280; (with_reducible refine (C1.out _).mono ?_); rintro e w9 ⟨rfl, rfl⟩) | (go_at_call 282; (refine HAL.out.mono ?_); rintro e w9 ⟨rfl, k9⟩; have HK := Lib.hid (HK.out.trans k9 (fun _ h => h.elim)); clear k9))
      go_ret
      exact ⟨rfl, HK.out⟩
theorem Tryz.en_isRecipe : ∀ args w, (callFunc 290 args).run Tryz.prog w = .ok (.enter 290 args) w := enters_of Tryz.func290 (by kernel_rfl) rfl

set_option maxHeartbeats 2000000 in
theorem isQuest_any {w : World} (x : QuestM) : Calls Tryz.prog 197 #[.agg (questC x).toArray] w fun e w' => e = .returned (.bool (okQuest x)) ∧ Keep (fun _ => False) w w' := by
  have hok : okQuest x = (inB x.id 1 1000 && inB x.item 1 1000 && inB x.count 1 5 && inB x.gold 0 1073741824 && inB x.reward 0 1000) := by unfold okQuest gMax; rfl
  rw [hok]
  clear hok
  have HK : Hid (Keep (fun _ => False) w (w.alloc (.cells (questC x).toArray 137))) := Lib.hid ((Keep.refl _ w).alloc _)
  have C0 := Lib.hid (fun w9 : World => isId_any (w := w9) x.id)
  have C1 := Lib.hid (fun w9 : World => isId_any (w := w9) x.item)
  have C2 := Lib.hid (fun w9 : World => within_int (w := w9) x.count 1 5)
  have C3 := Lib.hid (fun w9 : World => isGold_any (w := w9) x.gold)
  have C4 := Lib.hid (fun w9 : World => isIdOrNone_any (w := w9) x.reward)
  obtain ⟨b0, hb0⟩ : ∃ b, b = (inB x.id 1 1000) := ⟨_, rfl⟩
  obtain ⟨b1, hb1⟩ : ∃ b, b = (inB x.item 1 1000) := ⟨_, rfl⟩
  obtain ⟨b2, hb2⟩ : ∃ b, b = (inB x.count 1 5) := ⟨_, rfl⟩
  obtain ⟨b3, hb3⟩ : ∃ b, b = (inB x.gold 0 1073741824) := ⟨_, rfl⟩
  obtain ⟨b4, hb4⟩ : ∃ b, b = (inB x.reward 0 1000) := ⟨_, rfl⟩
  rw [← hb0] at C0 ⊢
  rw [← hb1] at C1 ⊢
  rw [← hb2] at C2 ⊢
  rw [← hb3] at C3 ⊢
  rw [← hb4] at C4 ⊢
  clear hb0 hb1 hb2 hb3 hb4
  simp only [questC] at HK ⊢
  cases b0 with
  | false =>
    go_enter Tryz.func197, Tryz.ntmps197
    go_wp2_with (first | (go_at_call 279; (with_reducible refine (C0.out _).mono ?_); rintro e w9 ⟨rfl, rfl⟩))
    go_ret
    exact ⟨rfl, HK.out⟩
  | true =>
    cases b1 with
    | false =>
      go_enter Tryz.func197, Tryz.ntmps197
      go_wp2_with (first | (go_at_call 279; (with_reducible refine (C0.out _).mono ?_); rintro e w9 ⟨rfl, rfl⟩) | (go_at_call 279; (with_reducible refine (C1.out _).mono ?_); rintro e w9 ⟨rfl, rfl⟩))
      go_ret
      exact ⟨rfl, HK.out⟩
    | true =>
      cases b2 with
      | false =>
        go_enter Tryz.func197, Tryz.ntmps197
        go_wp2_with (first | (go_at_call 279; (with_reducible refine (C0.out _).mono ?_); rintro e w9 ⟨rfl, rfl⟩) | (go_at_call 279; (with_reducible refine (C1.out _).mono ?_); rintro e w9 ⟨rfl, rfl⟩) | (go_at_call 280; (with_reducible refine (C2.out _).mono ?_); rintro e w9 ⟨rfl, rfl⟩))
        go_ret
        exact ⟨rfl, HK.out⟩
      | true =>
        cases b3 with
        | false =>
          go_enter Tryz.func197, Tryz.ntmps197
          go_wp2_with (first | (go_at_call 279; (with_reducible refine (C0.out _).mono ?_); rintro e w9 ⟨rfl, rfl⟩) | (go_at_call 279; (with_reducible refine (C1.out _).mono ?_); rintro e w9 ⟨rfl, rfl⟩) | (go_at_call 280; (with_reducible refine (C2.out _).mono ?_); rintro e w9 ⟨rfl, rfl⟩) | (go_at_call 281; (with_reducible refine (C3.out _).mono ?_); rintro e w9 ⟨rfl, rfl⟩))
          go_ret
          exact ⟨rfl, HK.out⟩
        | true =>
          go_enter Tryz.func197, Tryz.ntmps197
          go_wp2_with (first | (go_at_call 279; (with_reducible refine (C0.out _).mono ?_); rintro e w9 ⟨rfl, rfl⟩) | (go_at_call 279; (with_reducible refine (C1.out _).mono ?_); rintro e w9 ⟨rfl, rfl⟩) | (go_at_call 280; (with_reducible refine (C2.out _).mono ?_); rintro e w9 ⟨rfl, rfl⟩) | (go_at_call 281; (with_reducible refine (C3.out _).mono ?_); rintro e w9 ⟨rfl, rfl⟩) | (go_at_call 283; (with_reducible refine (C4.out _).mono ?_); rintro e w9 ⟨rfl, rfl⟩))
          go_ret
          exact ⟨rfl, HK.out⟩
theorem Tryz.en_isQuest : ∀ args w, (callFunc 197 args).run Tryz.prog w = .ok (.enter 197 args) w := enters_of Tryz.func197 (by kernel_rfl) rfl

set_option maxHeartbeats 2000000 in
theorem isShop_any {w : World} (x : ShopM) {v : Value} (hv : Seen w 1 v x.items.length (icells x.items)) : Calls Tryz.prog 294 #[.agg (shopC (x, v)).toArray] w fun e w' => e = .returned (.bool (okShopU x)) ∧ Keep (fun _ => False) w w' := by
  have hok : okShopU x = (inB x.room 1 1000 && inB x.till 0 1073741824 && decide ((x.items.length : Int) ≤ 8) && x.items.all (fun n => inB n 1 1000)) := okShopU_prog x
  rw [hok]
  clear hok
  obtain ⟨hl1, va, vc, rfl, hv1, hv2, hv3⟩ := hv
  have HV : Hid (Seen w 1 (.slice va x.items.length vc) x.items.length (icells x.items)) := Lib.hid ⟨hl1, va, vc, rfl, hv1, hv2, hv3⟩
  unfold maxLen at hv2
  clear hv3 hl1
  have HK : Hid (Keep (fun _ => False) w (w.alloc (.cells (shopC (x, .slice va x.items.length vc)).toArray 107))) := Lib.hid ((Keep.refl _ w).alloc _)
  have C0 := Lib.hid (fun w9 : World => isId_any (w := w9) x.room)
  have C1 := Lib.hid (fun w9 : World => isGold_any (w := w9) x.till)
  have hse : Seen (w.alloc (.cells (shopC (x, .slice va x.items.length vc)).toArray 107)) 1 (.slice va x.items.length vc) (x.items).length (icells (x.items)) := HV.out.keep HK.out (fun _ _ _ h => h)
  have HAL := Lib.hid (allInt_any hse (fun n => inB n 1 1000) (lb := #[]) Tryz.en_isId (fun n _ w9 k9 => (isId_any n).mono fun e w' hh => ⟨hh.1, Keep.of_eq hh.2⟩))
  clear hse
  obtain ⟨b0, hb0⟩ : ∃ b, b = (inB x.room 1 1000) := ⟨_, rfl⟩
  obtain ⟨b1, hb1⟩ : ∃ b, b = (inB x.till 0 1073741824) := ⟨_, rfl⟩
  obtain ⟨b2, hb2⟩ : ∃ b, b = (decide ((x.items.length : Int) ≤ 8)) := ⟨_, rfl⟩
  obtain ⟨b3, hb3⟩ : ∃ b, b = (x.items.all (fun n => inB n 1 1000)) := ⟨_, rfl⟩
  rw [← hb0] at C0 ⊢
  rw [← hb1] at C1 ⊢
  rw [← hb2]
  rw [← hb3] at HAL ⊢
  have d8 : decide ((x.items.length : Int) ≤ 8) = b2 := hb2.symm
  have d8b : decide (x.items.length ≤ 8) = b2 := by rw [hb2, decide_eq_decide]; omega
  clear hb0 hb1 hb2 hb3
  simp only [shopC] at HK HAL ⊢
  cases b0 with
  | false =>
    go_enter Tryz.func294, Tryz.ntmps294
    go_wp2_with (first | (go_at_call 279; (with_reducible refine (C0.out _).mono ?_); rintro e w9 ⟨rfl, rfl⟩))
    go_ret
    exact ⟨rfl, HK.out⟩
  | true =>
    cases b1 with
    | false =>
      go_enter Tryz.func294, Tryz.ntmps294
      go_wp2_with (first | (go_at_call 279; (with_reducible refine (C0.out _).mono ?_); rintro e w9 ⟨rfl, rfl⟩) | (go_at_call 281; (with_reducible refine (C1.out _).mono ?_); rintro e w9 ⟨rfl, rfl⟩))
      go_ret
      exact ⟨rfl, HK.out⟩
    | true =>
      cases b2 with
      | false =>
        go_enter Tryz.func294, Tryz.ntmps294
        go_wp2_with (first | (go_at_call 279; (with_reducible refine (C0.out _).mono ?_); rintro e w9 ⟨rfl, rfl⟩) | (go_at_call 281; (with_reducible refine (C1.out _).mono ?_); rintro e w9 ⟨rfl, rfl⟩))
        go_ret
        exact ⟨rfl, HK.out⟩
      | true =>
        go_enter Tryz.func294, Tryz.ntmps294
        go_wp2_with (first | (go_at_call 279; (with_reducible refine (C0.out _).mono ?_); rintro e w9 ⟨rfl, rfl⟩) | (go_at_call 281; (with_reducible refine (C1.out _).mono ?_); rintro e w9 ⟨rfl, rfl⟩) | (go_at_call 282; (refine HAL.out.mono ?_); rintro e w9 ⟨rfl, k9⟩; have HK := Lib.hid (HK.out.trans k9 (fun _ h => h.elim)); clear k9))
        go_ret
        exact ⟨rfl, HK.out⟩
theorem Tryz.en_isShop : ∀ args w, (callFunc 294 args).run Tryz.prog w = .ok (.enter 294 args) w := enters_of Tryz.func294 (by kernel_rfl) rfl
end Go.Proofs.YtheaghgockafmaaGreat.Wd
