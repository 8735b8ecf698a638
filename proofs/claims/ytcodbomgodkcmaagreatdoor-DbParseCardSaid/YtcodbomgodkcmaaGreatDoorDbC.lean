/- World files: the reference's things (made by tools/gendb.py). -/
import Derived.Test.YtcodbomgodkcmaaGreatDoorDbB
namespace Go.Proofs.YtcodbomgodkcmaaGreatDoor.Wd
open Go.RowKit Go.Maps Go.Proofs.YtcodbomgodkcmaaGreatDoor Go.Proofs.YtcodbomgodkcmaaGreatDoor.Lin
set_option maxRecDepth 100000

theorem zprotos : ∃ Z : Array Value, Hid (∀ w : World, (zeroValue 78).run Tryz.prog w = .ok (.agg Z) w) ∧ Hid (Z.size = 5) :=
  ⟨#[.int .i64 0, .string ⟨#[]⟩, .int .i64 0, .int .i64 0, .int .i64 0], Lib.hid (fun w => by kernel_rfl), Lib.hid rfl⟩
theorem zmobs : ∃ Z : Array Value, Hid (∀ w : World, (zeroValue 80).run Tryz.prog w = .ok (.agg Z) w) ∧ Hid (Z.size = 7) :=
  ⟨#[.int .i64 0, .string ⟨#[]⟩, .int .i64 0, .int .i64 0, .int .i64 0, .int .i64 0, .int .i64 0], Lib.hid (fun w => by kernel_rfl), Lib.hid rfl⟩

set_option maxHeartbeats 8000000 in
theorem refThings_any {w : World} {d o : Nat} {D : DbM} {P : Nat → Prop} (h : DbAt P w d o D) (hl : D.protos.length ≤ 1000000) (hl2 : D.mobs.length ≤ 1000000) (hn : ∀ r ∈ D.protos, r.name.size ≤ 1000000) (hn2 : ∀ r ∈ D.mobs, r.name.size ≤ 1000000) :
    Calls Tryz.prog 30 #[.pointer (some ⟨d, o, none⟩)] w fun e w' => ∃ b, e = .returned (.bool b) ∧ (b = true ↔ ThingsOk D) ∧ Keep (fun _ => False) w w' := by
  obtain ⟨v1, v2, v3, v4, v5, v6, rr, ss, hd, hr, h1, h2, h3, _⟩ := h.ex
  have HPprotos : Hid (∀ w9, Keep (fun _ => False) w w9 → w9.cell? ⟨d, o + 1, none⟩ = some v2) := Lib.hid (fun w9 k => (k.cell hd (fun h => h) _).trans (hr 1 _ rfl))
  have H1A := Lib.hid h2
  obtain ⟨aA, capA, rfl, hcA, hccA⟩ := h2.slice
  have HPmobs : Hid (∀ w9, Keep (fun _ => False) w w9 → w9.cell? ⟨d, o + 2, none⟩ = some v3) := Lib.hid (fun w9 k => (k.cell hd (fun h => h) _).trans (hr 2 _ rfl))
  have H1B := Lib.hid h3
  obtain ⟨aB, capB, rfl, hcB, hccB⟩ := h3.slice
  unfold maxLen at hccA hccB
  obtain ⟨LA, hLA⟩ : ∃ L, L = D.protos := ⟨_, rfl⟩
  obtain ⟨LB, hLB⟩ : ∃ L, L = D.mobs := ⟨_, rfl⟩
  unfold ThingsOk
  rw [← hLA] at H1A HPprotos hcA hl hn ⊢
  rw [← hLB] at H1B HPmobs hcB hl2 hn2 ⊢
  have HNA := Lib.hid hn
  have HNB := Lib.hid hn2
  obtain ⟨Za, HZa, HZSprotos⟩ := zprotos
  obtain ⟨Zb, HZb, HZSmobs⟩ := zmobs
  have HZprotos := Lib.hid HZa
  have HZmobs := Lib.hid HZb
  have p0 := HPprotos.out w (Keep.refl _ _)
  clear h hr h1 h2 h3 hLA hLB hn hn2 HZa HZb
  go_enter Tryz.func30, Tryz.ntmps30
  go_wp2
  go_loopw [3] (fun iv wr => RiR okProto ProtoM.id LA w iv wr) (fun iv _ => LA.length - (intOf iv).toNat)
  case atStart => exact ⟨0, by omega, rfl, RiseTo.zero _ _ _, Keep.refl _ _⟩
  case round =>
    obtain ⟨k, hk, rfl, hall, hK⟩ := hrel.ex
    have HA := Lib.hid hall; have HK := Lib.hid hK
    clear hall hrel hK
    have p2 := HPprotos.out wr HK.out
    by_cases hlt : k < LA.length
    · as_aux_lemma =>
        have hd1 : decide (k < LA.length) = true := by simpa using hlt
        obtain ⟨x, hx⟩ : ∃ x, LA[k]? = some x := ⟨_, List.getElem?_eq_getElem hlt⟩
        obtain ⟨g, off, rfl, hg⟩ := H1A.out.some hx
        have hrg : wr.rangeAt g (off + k * 5) (protoC x) := range_keep (H1A.out.range protoC_len k x hx) HK.out hg (fun h => h)
        have q0 : wr.cell? ⟨g, off + k * 5, none⟩ = some (.int .i64 x.id) := hrg 0 _ rfl
        have q1 : wr.cell? ⟨g, off + k * 5 + 1, none⟩ = some (.string x.name) := hrg 1 _ rfl
        have q2 : wr.cell? ⟨g, off + k * 5 + 2, none⟩ = some (.int .i64 x.slot) := hrg 2 _ rfl
        have q3 : wr.cell? ⟨g, off + k * 5 + 3, none⟩ = some (.int .i64 x.power) := hrg 3 _ rfl
        have q4 : wr.cell? ⟨g, off + k * 5 + 4, none⟩ = some (.int .i64 x.price) := hrg 4 _ rfl
        have HNX : Hid (x.name.size ≤ 1000000) := Lib.hid (HNA.out x (List.mem_of_getElem? hx))
        have HX := Lib.hid hx
        have HPRE : Hid (∀ m : Nat, k = m + 1 → ∃ (y : ProtoM), LA[m]? = some y ∧ ∀ w9, Keep (fun _ => False) w w9 → w9.cell? ⟨g, off + m * 5, none⟩ = some (.int .i64 y.id)) := Lib.hid (fun m hm => by
          obtain ⟨y, hy⟩ : ∃ y, LA[m]? = some y := ⟨_, List.getElem?_eq_getElem (by omega)⟩
          exact ⟨y, hy, fun w9 k9 => (k9.cell hg (fun h => h) _).trans (H1A.out.cell protoC_len m 0 y hy (by omega))⟩)
        clear hrg hx
        go_wp2_with (refine Cd.wpList_var_arr (C := (protoC x).toArray) HZprotos.out rfl HZSprotos.out (by simp [protoC, Value.oneCell']) rfl rfl rfl (.tmp 4) (.tmp 22) rfl rfl rfl ?_; simp only [Act.put, List.setIfInBounds_toArray, List.set_cons_succ, List.set_cons_zero])
        have HB : Hid ((wr.alloc (.cells (protoC x).toArray 78)).heap[wr.heap.size]? = some (.cells (protoC x).toArray 78 (0, 0))) := Lib.hid (heap_alloc_new wr _)
        have HK1 : Hid (Keep (fun _ => False) w (wr.alloc (.cells (protoC x).toArray 78))) := Lib.hid (HK.out.alloc _)
        generalize wr.alloc (.cells (protoC x).toArray 78) = W1 at HB HK1 ⊢
        generalize wr.heap.size = B at HB ⊢
        clear p2 HK q0 q1 q2 q3 q4
        have c0 : W1.cell? ⟨B, 0, none⟩ = some (.int .i64 x.id) := (cell_of_row W1 B 0 _ _ _ HB.out).trans rfl
        have c1 : W1.cell? ⟨B, 1, none⟩ = some (.string x.name) := (cell_of_row W1 B 1 _ _ _ HB.out).trans rfl
        have c2 : W1.cell? ⟨B, 2, none⟩ = some (.int .i64 x.slot) := (cell_of_row W1 B 2 _ _ _ HB.out).trans rfl
        have c3 : W1.cell? ⟨B, 3, none⟩ = some (.int .i64 x.power) := (cell_of_row W1 B 3 _ _ _ HB.out).trans rfl
        have c4 : W1.cell? ⟨B, 4, none⟩ = some (.int .i64 x.price) := (cell_of_row W1 B 4 _ _ _ HB.out).trans rfl
        have p3 := HPprotos.out W1 HK1.out
        have HBAD : Hid (∀ (w9 : World) (k9 : Keep (fun _ => False) W1 w9) (h : okProto x = false ∨ ∃ y, 0 < k ∧ LA[k - 1]? = some y ∧ x.id ≤ y.id), ∃ b, Ending.returned (.bool false) = .returned (.bool b) ∧ (b = true ↔ Rise okProto ProtoM.id LA ∧ Rise okMobP MobPM.id LB ∧ LA.length ≤ 60 ∧ LB.length ≤ 60) ∧ Keep (fun _ => False) w w9) := Lib.hid (fun w9 k9 h => ⟨false, rfl, ⟨fun (h0 : false = true) => (by cases h0), fun h0 => absurd h0.1 (RiseTo.fail HX.out h)⟩, (HK1.out.trans k9 (fun _ h => h.elim))⟩)
        cases b0 : inB x.id 1 1000 with
        | false =>
          have C0 : Hid (∀ nn, Calls Tryz.prog 84 #[.int .i64 x.id, .int .i64 1, .int .i64 1000] (W1.drewN nn) fun e w' => e = .returned (.bool false) ∧ w' = W1.drewN nn) := Lib.hid (fun nn => (refIn_any x.id 1 1000).mono fun _ _ h => ⟨by rw [h.1, b0], h.2.symm⟩)
          have HF : Hid (okProto x = false) := Lib.hid (by unfold okProto; rw [b0]; simp)
          clear b0
          go_wp2
          go_quiet (first | (go_at_call 84; with_reducible refine Calls.quiet_of_same (C0.out _)))
          go_wp2
          go_ret
          exact HBAD.out _ (kdrewB _ _) (.inl HF.out)
        | true =>
          cases b1 : wordOk x.name with
          | false =>
            have C0 : Hid (∀ nn, Calls Tryz.prog 84 #[.int .i64 x.id, .int .i64 1, .int .i64 1000] (W1.drewN nn) fun e w' => e = .returned (.bool true) ∧ w' = W1.drewN nn) := Lib.hid (fun nn => (refIn_any x.id 1 1000).mono fun _ _ h => ⟨by rw [h.1, b0], h.2.symm⟩)
            have C1 : Hid (∀ nn, Calls Tryz.prog 77 #[.string x.name] (W1.drewN nn) fun e w' => e = .returned (.bool false) ∧ w' = W1.drewN nn) := Lib.hid (fun nn => (refWordOk x.name HNX.out).mono fun _ _ h => ⟨by rw [h.1, b1], h.2.symm⟩)
            have HF : Hid (okProto x = false) := Lib.hid (by unfold okProto; rw [b0, b1]; simp)
            clear b0 b1
            go_wp2
            go_quiet (first | (go_at_call 84; with_reducible refine Calls.quiet_of_same (C0.out _)) | (go_at_call 77; with_reducible refine Calls.quiet_of_same (C1.out _)))
            go_wp2
            go_ret
            exact HBAD.out _ (kdrewB _ _) (.inl HF.out)
          | true =>
            cases b2 : inB x.slot 0 2 with
            | false =>
              have C0 : Hid (∀ nn, Calls Tryz.prog 84 #[.int .i64 x.id, .int .i64 1, .int .i64 1000] (W1.drewN nn) fun e w' => e = .returned (.bool true) ∧ w' = W1.drewN nn) := Lib.hid (fun nn => (refIn_any x.id 1 1000).mono fun _ _ h => ⟨by rw [h.1, b0], h.2.symm⟩)
              have C1 : Hid (∀ nn, Calls Tryz.prog 77 #[.string x.name] (W1.drewN nn) fun e w' => e = .returned (.bool true) ∧ w' = W1.drewN nn) := Lib.hid (fun nn => (refWordOk x.name HNX.out).mono fun _ _ h => ⟨by rw [h.1, b1], h.2.symm⟩)
              have C2 : Hid (∀ nn, Calls Tryz.prog 84 #[.int .i64 x.slot, .int .i64 0, .int .i64 2] (W1.drewN nn) fun e w' => e = .returned (.bool false) ∧ w' = W1.drewN nn) := Lib.hid (fun nn => (refIn_any x.slot 0 2).mono fun _ _ h => ⟨by rw [h.1, b2], h.2.symm⟩)
              have HF : Hid (okProto x = false) := Lib.hid (by unfold okProto; rw [b0, b1, b2]; simp)
              clear b0 b1 b2
              go_wp2
              go_quiet (first | (go_at_call 84; with_reducible refine Calls.quiet_of_same (C0.out _)) | (go_at_call 77; with_reducible refine Calls.quiet_of_same (C1.out _)) | (go_at_call 84; with_reducible refine Calls.quiet_of_same (C2.out _)))
              go_wp2
              go_ret
              exact HBAD.out _ (kdrewB _ _) (.inl HF.out)
            | true =>
              cases b3 : inB x.power 0 100 with
              | false =>
                have C0 : Hid (∀ nn, Calls Tryz.prog 84 #[.int .i64 x.id, .int .i64 1, .int .i64 1000] (W1.drewN nn) fun e w' => e = .returned (.bool true) ∧ w' = W1.drewN nn) := Lib.hid (fun nn => (refIn_any x.id 1 1000).mono fun _ _ h => ⟨by rw [h.1, b0], h.2.symm⟩)
                have C1 : Hid (∀ nn, Calls Tryz.prog 77 #[.string x.name] (W1.drewN nn) fun e w' => e = .returned (.bool true) ∧ w' = W1.drewN nn) := Lib.hid (fun nn => (refWordOk x.name HNX.out).mono fun _ _ h => ⟨by rw [h.1, b1], h.2.symm⟩)
                have C2 : Hid (∀ nn, Calls Tryz.prog 84 #[.int .i64 x.slot, .int .i64 0, .int .i64 2] (W1.drewN nn) fun e w' => e = .returned (.bool true) ∧ w' = W1.drewN nn) := Lib.hid (fun nn => (refIn_any x.slot 0 2).mono fun _ _ h => ⟨by rw [h.1, b2], h.2.symm⟩)
                have C3 : Hid (∀ nn, Calls Tryz.prog 84 #[.int .i64 x.power, .int .i64 0, .int .i64 100] (W1.drewN nn) fun e w' => e = .returned (.bool false) ∧ w' = W1.drewN nn) := Lib.hid (fun nn => (refIn_any x.power 0 100).mono fun _ _ h => ⟨by rw [h.1, b3], h.2.symm⟩)
                have HF : Hid (okProto x = false) := Lib.hid (by unfold okProto; rw [b0, b1, b2, b3]; simp)
                clear b0 b1 b2 b3
                go_wp2
                go_quiet (first | (go_at_call 84; with_reducible refine Calls.quiet_of_same (C0.out _)) | (go_at_call 77; with_reducible refine Calls.quiet_of_same (C1.out _)) | (go_at_call 84; with_reducible refine Calls.quiet_of_same (C2.out _)) | (go_at_call 84; with_reducible refine Calls.quiet_of_same (C3.out _)))
                go_wp2
                go_ret
                exact HBAD.out _ (kdrewB _ _) (.inl HF.out)
              | true =>
                cases b4 : inB x.price 0 1073741824 with
                | false =>
                  have C0 : Hid (∀ nn, Calls Tryz.prog 84 #[.int .i64 x.id, .int .i64 1, .int .i64 1000] (W1.drewN nn) fun e w' => e = .returned (.bool true) ∧ w' = W1.drewN nn) := Lib.hid (fun nn => (refIn_any x.id 1 1000).mono fun _ _ h => ⟨by rw [h.1, b0], h.2.symm⟩)
                  have C1 : Hid (∀ nn, Calls Tryz.prog 77 #[.string x.name] (W1.drewN nn) fun e w' => e = .returned (.bool true) ∧ w' = W1.drewN nn) := Lib.hid (fun nn => (refWordOk x.name HNX.out).mono fun _ _ h => ⟨by rw [h.1, b1], h.2.symm⟩)
                  have C2 : Hid (∀ nn, Calls Tryz.prog 84 #[.int .i64 x.slot, .int .i64 0, .int .i64 2] (W1.drewN nn) fun e w' => e = .returned (.bool true) ∧ w' = W1.drewN nn) := Lib.hid (fun nn => (refIn_any x.slot 0 2).mono fun _ _ h => ⟨by rw [h.1, b2], h.2.symm⟩)
                  have C3 : Hid (∀ nn, Calls Tryz.prog 84 #[.int .i64 x.power, .int .i64 0, .int .i64 100] (W1.drewN nn) fun e w' => e = .returned (.bool true) ∧ w' = W1.drewN nn) := Lib.hid (fun nn => (refIn_any x.power 0 100).mono fun _ _ h => ⟨by rw [h.1, b3], h.2.symm⟩)
                  have C4 : Hid (∀ nn, Calls Tryz.prog 84 #[.int .i64 x.price, .int .i64 0, .int .i64 1073741824] (W1.drewN nn) fun e w' => e = .returned (.bool false) ∧ w' = W1.drewN nn) := Lib.hid (fun nn => (refIn_any x.price 0 1073741824).mono fun _ _ h => ⟨by rw [h.1, b4], h.2.symm⟩)
                  have HF : Hid (okProto x = false) := Lib.hid (by unfold okProto; rw [b0, b1, b2, b3, b4]; simp)
                  clear b0 b1 b2 b3 b4
                  go_wp2
                  go_quiet (first | (go_at_call 84; with_reducible refine Calls.quiet_of_same (C0.out _)) | (go_at_call 77; with_reducible refine Calls.quiet_of_same (C1.out _)) | (go_at_call 84; with_reducible refine Calls.quiet_of_same (C2.out _)) | (go_at_call 84; with_reducible refine Calls.quiet_of_same (C3.out _)) | (go_at_call 84; with_reducible refine Calls.quiet_of_same (C4.out _)))
                  go_wp2
                  go_ret
                  exact HBAD.out _ (kdrewB _ _) (.inl HF.out)
                | true =>
                  have C0 : Hid (∀ nn, Calls Tryz.prog 84 #[.int .i64 x.id, .int .i64 1, .int .i64 1000] (W1.drewN nn) fun e w' => e = .returned (.bool true) ∧ w' = W1.drewN nn) := Lib.hid (fun nn => (refIn_any x.id 1 1000).mono fun _ _ h => ⟨by rw [h.1, b0], h.2.symm⟩)
                  have C1 : Hid (∀ nn, Calls Tryz.prog 77 #[.string x.name] (W1.drewN nn) fun e w' => e = .returned (.bool true) ∧ w' = W1.drewN nn) := Lib.hid (fun nn => (refWordOk x.name HNX.out).mono fun _ _ h => ⟨by rw [h.1, b1], h.2.symm⟩)
                  have C2 : Hid (∀ nn, Calls Tryz.prog 84 #[.int .i64 x.slot, .int .i64 0, .int .i64 2] (W1.drewN nn) fun e w' => e = .returned (.bool true) ∧ w' = W1.drewN nn) := Lib.hid (fun nn => (refIn_any x.slot 0 2).mono fun _ _ h => ⟨by rw [h.1, b2], h.2.symm⟩)
                  have C3 : Hid (∀ nn, Calls Tryz.prog 84 #[.int .i64 x.power, .int .i64 0, .int .i64 100] (W1.drewN nn) fun e w' => e = .returned (.bool true) ∧ w' = W1.drewN nn) := Lib.hid (fun nn => (refIn_any x.power 0 100).mono fun _ _ h => ⟨by rw [h.1, b3], h.2.symm⟩)
                  have C4 : Hid (∀ nn, Calls Tryz.prog 84 #[.int .i64 x.price, .int .i64 0, .int .i64 1073741824] (W1.drewN nn) fun e w' => e = .returned (.bool true) ∧ w' = W1.drewN nn) := Lib.hid (fun nn => (refIn_any x.price 0 1073741824).mono fun _ _ h => ⟨by rw [h.1, b4], h.2.symm⟩)
                  have HBS : Hid (inB x.id 1 1000 = true ∧ wordOk x.name = true ∧ inB x.slot 0 2 = true ∧ inB x.power 0 100 = true ∧ inB x.price 0 1073741824 = true) := Lib.hid ⟨b0, b1, b2, b3, b4⟩
                  clear b0 b1 b2 b3 b4
                  by_cases hk0 : k = 0
                  · have dk : decide (0 < (k : Int)) = false := by rw [decide_eq_false_iff_not]; omega
                    have dk2 : decide (0 < k) = false := by rw [decide_eq_false_iff_not]; omega
                    have HOR : Hid (∀ y, 0 < k → LA[k - 1]? = some y → y.id < x.id) := Lib.hid (fun y h => by omega)
                    clear hk0
                    go_wp2
                    go_quiet (first | (go_at_call 84; with_reducible refine Calls.quiet_of_same (C0.out _)) | (go_at_call 77; with_reducible refine Calls.quiet_of_same (C1.out _)) | (go_at_call 84; with_reducible refine Calls.quiet_of_same (C2.out _)) | (go_at_call 84; with_reducible refine Calls.quiet_of_same (C3.out _)) | (go_at_call 84; with_reducible refine Calls.quiet_of_same (C4.out _)))
                    have HNX2 : Hid (RiseTo okProto ProtoM.id LA (k + 1)) := Lib.hid (HA.out.next HX.out (by obtain ⟨g0, g1, g2, g3, g4⟩ := HBS.out; unfold okProto; simp [g0, g1, g2, g3, g4]) HOR.out)
                    go_wp2
                    go_roundw
                    case rel => exact ⟨k + 1, by omega, by go_num, HNX2.out, HK1.out.trans (kdrewB _ _) (fun _ h => h.elim)⟩
                    case measure => simp [intOf]; omega
                  · obtain ⟨m, hm⟩ : ∃ m, k = m + 1 := ⟨k - 1, by omega⟩
                    obtain ⟨y, hy, hyc⟩ := HPRE.out m hm
                    have z0 := hyc W1 HK1.out
                    have dk : decide (0 < (k : Int)) = true := by rw [decide_eq_true_eq]; omega
                    have dk2 : decide (0 < k) = true := by rw [decide_eq_true_eq]; omega
                    have e1 : (k : Int) - 1 = (m : Int) := by omega
                    have hml : m < LA.length := by omega
                    have HM := Lib.hid hm
                    have HY := Lib.hid hy
                    clear hm hy hyc hk0
                    by_cases hle : x.id ≤ y.id
                    · have dle : decide (x.id ≤ y.id) = true := by rw [decide_eq_true_eq]; exact hle
                      have HLE := Lib.hid hle
                      clear hle
                      go_wp2
                      go_quiet (first | (go_at_call 84; with_reducible refine Calls.quiet_of_same (C0.out _)) | (go_at_call 77; with_reducible refine Calls.quiet_of_same (C1.out _)) | (go_at_call 84; with_reducible refine Calls.quiet_of_same (C2.out _)) | (go_at_call 84; with_reducible refine Calls.quiet_of_same (C3.out _)) | (go_at_call 84; with_reducible refine Calls.quiet_of_same (C4.out _)))
                      go_wp2
                      go_ret
                      exact HBAD.out _ (kdrewB _ _) (.inr ⟨y, by have := HM.out; omega, by rw [show k - 1 = m by have := HM.out; omega]; exact HY.out, HLE.out⟩)
                    · have dle : decide (x.id ≤ y.id) = false := by rw [decide_eq_false_iff_not]; exact hle
                      have HOR : Hid (∀ y, 0 < k → LA[k - 1]? = some y → y.id < x.id) := Lib.hid (fun z _ hz => by rw [show k - 1 = m by have := HM.out; omega, HY.out] at hz; cases hz; omega)
                      clear hle
                      go_wp2
                      go_quiet (first | (go_at_call 84; with_reducible refine Calls.quiet_of_same (C0.out _)) | (go_at_call 77; with_reducible refine Calls.quiet_of_same (C1.out _)) | (go_at_call 84; with_reducible refine Calls.quiet_of_same (C2.out _)) | (go_at_call 84; with_reducible refine Calls.quiet_of_same (C3.out _)) | (go_at_call 84; with_reducible refine Calls.quiet_of_same (C4.out _)))
                      have HNX2 : Hid (RiseTo okProto ProtoM.id LA (k + 1)) := Lib.hid (HA.out.next HX.out (by obtain ⟨g0, g1, g2, g3, g4⟩ := HBS.out; unfold okProto; simp [g0, g1, g2, g3, g4]) HOR.out)
                      go_wp2
                      go_roundw
                      case rel => exact ⟨k + 1, by omega, by go_num, HNX2.out, HK1.out.trans (kdrewB _ _) (fun _ h => h.elim)⟩
                      case measure => simp [intOf]; omega
    · have hd1 : decide (k < LA.length) = false := by rw [decide_eq_false_iff_not]; omega
      have HRA : Hid (Rise okProto ProtoM.id LA) := Lib.hid (RiseTo.all.2 (by have := HA.out; rwa [show k = LA.length by omega] at this))
      have HKP := HK
      clear HA hlt hk
      have p2b := HPmobs.out wr HK.out
      go_wp2
      go_loopw [5] (fun iv wr => RiR okMobP MobPM.id LB w iv wr) (fun iv _ => LB.length - (intOf iv).toNat)
      case atStart => exact ⟨0, by omega, rfl, RiseTo.zero _ _ _, HKP.out⟩
      case round =>
        obtain ⟨k, hk, rfl, hall, hK⟩ := hrel.ex
        have HA := Lib.hid hall; have HK := Lib.hid hK
        clear hall hrel hK
        have p2 := HPmobs.out wr HK.out
        by_cases hlt : k < LB.length
        · as_aux_lemma =>
            have hd1 : decide (k < LB.length) = true := by simpa using hlt
            obtain ⟨x, hx⟩ : ∃ x, LB[k]? = some x := ⟨_, List.getElem?_eq_getElem hlt⟩
            obtain ⟨g, off, rfl, hg⟩ := H1B.out.some hx
            have hrg : wr.rangeAt g (off + k * 7) (mobpC x) := range_keep (H1B.out.range mobpC_len k x hx) HK.out hg (fun h => h)
            have q0 : wr.cell? ⟨g, off + k * 7, none⟩ = some (.int .i64 x.id) := hrg 0 _ rfl
            have q1 : wr.cell? ⟨g, off + k * 7 + 1, none⟩ = some (.string x.name) := hrg 1 _ rfl
            have q2 : wr.cell? ⟨g, off + k * 7 + 2, none⟩ = some (.int .i64 x.home) := hrg 2 _ rfl
            have q3 : wr.cell? ⟨g, off + k * 7 + 3, none⟩ = some (.int .i64 x.hp) := hrg 3 _ rfl
            have q4 : wr.cell? ⟨g, off + k * 7 + 4, none⟩ = some (.int .i64 x.power) := hrg 4 _ rfl
            have q5 : wr.cell? ⟨g, off + k * 7 + 5, none⟩ = some (.int .i64 x.xp) := hrg 5 _ rfl
            have q6 : wr.cell? ⟨g, off + k * 7 + 6, none⟩ = some (.int .i64 x.gold) := hrg 6 _ rfl
            have HNX : Hid (x.name.size ≤ 1000000) := Lib.hid (HNB.out x (List.mem_of_getElem? hx))
            have HX := Lib.hid hx
            have HPRE : Hid (∀ m : Nat, k = m + 1 → ∃ (y : MobPM), LB[m]? = some y ∧ ∀ w9, Keep (fun _ => False) w w9 → w9.cell? ⟨g, off + m * 7, none⟩ = some (.int .i64 y.id)) := Lib.hid (fun m hm => by
              obtain ⟨y, hy⟩ : ∃ y, LB[m]? = some y := ⟨_, List.getElem?_eq_getElem (by omega)⟩
              exact ⟨y, hy, fun w9 k9 => (k9.cell hg (fun h => h) _).trans (H1B.out.cell mobpC_len m 0 y hy (by omega))⟩)
            clear hrg hx
            go_wp2_with (refine Cd.wpList_var_arr (C := (mobpC x).toArray) HZmobs.out rfl HZSmobs.out (by simp [mobpC, Value.oneCell']) rfl rfl rfl (.tmp 6) (.tmp 84) rfl rfl rfl ?_; simp only [Act.put, List.setIfInBounds_toArray, List.set_cons_succ, List.set_cons_zero])
            have HB : Hid ((wr.alloc (.cells (mobpC x).toArray 80)).heap[wr.heap.size]? = some (.cells (mobpC x).toArray 80 (0, 0))) := Lib.hid (heap_alloc_new wr _)
            have HK1 : Hid (Keep (fun _ => False) w (wr.alloc (.cells (mobpC x).toArray 80))) := Lib.hid (HK.out.alloc _)
            generalize wr.alloc (.cells (mobpC x).toArray 80) = W1 at HB HK1 ⊢
            generalize wr.heap.size = B at HB ⊢
            clear p2 HK q0 q1 q2 q3 q4 q5 q6
            have c0 : W1.cell? ⟨B, 0, none⟩ = some (.int .i64 x.id) := (cell_of_row W1 B 0 _ _ _ HB.out).trans rfl
            have c1 : W1.cell? ⟨B, 1, none⟩ = some (.string x.name) := (cell_of_row W1 B 1 _ _ _ HB.out).trans rfl
            have c2 : W1.cell? ⟨B, 2, none⟩ = some (.int .i64 x.home) := (cell_of_row W1 B 2 _ _ _ HB.out).trans rfl
            have c3 : W1.cell? ⟨B, 3, none⟩ = some (.int .i64 x.hp) := (cell_of_row W1 B 3 _ _ _ HB.out).trans rfl
            have c4 : W1.cell? ⟨B, 4, none⟩ = some (.int .i64 x.power) := (cell_of_row W1 B 4 _ _ _ HB.out).trans rfl
            have c5 : W1.cell? ⟨B, 5, none⟩ = some (.int .i64 x.xp) := (cell_of_row W1 B 5 _ _ _ HB.out).trans rfl
            have c6 : W1.cell? ⟨B, 6, none⟩ = some (.int .i64 x.gold) := (cell_of_row W1 B 6 _ _ _ HB.out).trans rfl
            have p3 := HPmobs.out W1 HK1.out
            have HBAD : Hid (∀ (w9 : World) (k9 : Keep (fun _ => False) W1 w9) (h : okMobP x = false ∨ ∃ y, 0 < k ∧ LB[k - 1]? = some y ∧ x.id ≤ y.id), ∃ b, Ending.returned (.bool false) = .returned (.bool b) ∧ (b = true ↔ Rise okProto ProtoM.id LA ∧ Rise okMobP MobPM.id LB ∧ LA.length ≤ 60 ∧ LB.length ≤ 60) ∧ Keep (fun _ => False) w w9) := Lib.hid (fun w9 k9 h => ⟨false, rfl, ⟨fun (h0 : false = true) => (by cases h0), fun h0 => absurd h0.2.1 (RiseTo.fail HX.out h)⟩, (HK1.out.trans k9 (fun _ h => h.elim))⟩)
            cases b0 : inB x.id 1 1000 with
            | false =>
              have C0 : Hid (∀ nn, Calls Tryz.prog 84 #[.int .i64 x.id, .int .i64 1, .int .i64 1000] (W1.drewN nn) fun e w' => e = .returned (.bool false) ∧ w' = W1.drewN nn) := Lib.hid (fun nn => (refIn_any x.id 1 1000).mono fun _ _ h => ⟨by rw [h.1, b0], h.2.symm⟩)
              have HF : Hid (okMobP x = false) := Lib.hid (by unfold okMobP; rw [b0]; simp)
              clear b0
              go_wp2
              go_quiet (first | (go_at_call 84; with_reducible refine Calls.quiet_of_same (C0.out _)))
              go_wp2
              go_ret
              exact HBAD.out _ (kdrewB _ _) (.inl HF.out)
            | true =>
              cases b1 : wordOk x.name with
              | false =>
                have C0 : Hid (∀ nn, Calls Tryz.prog 84 #[.int .i64 x.id, .int .i64 1, .int .i64 1000] (W1.drewN nn) fun e w' => e = .returned (.bool true) ∧ w' = W1.drewN nn) := Lib.hid (fun nn => (refIn_any x.id 1 1000).mono fun _ _ h => ⟨by rw [h.1, b0], h.2.symm⟩)
                have C1 : Hid (∀ nn, Calls Tryz.prog 77 #[.string x.name] (W1.drewN nn) fun e w' => e = .returned (.bool false) ∧ w' = W1.drewN nn) := Lib.hid (fun nn => (refWordOk x.name HNX.out).mono fun _ _ h => ⟨by rw [h.1, b1], h.2.symm⟩)
                have HF : Hid (okMobP x = false) := Lib.hid (by unfold okMobP; rw [b0, b1]; simp)
                clear b0 b1
                go_wp2
                go_quiet (first | (go_at_call 84; with_reducible refine Calls.quiet_of_same (C0.out _)) | (go_at_call 77; with_reducible refine Calls.quiet_of_same (C1.out _)))
                go_wp2
                go_ret
                exact HBAD.out _ (kdrewB _ _) (.inl HF.out)
              | true =>
                cases b2 : inB x.home 1 1000 with
                | false =>
                  have C0 : Hid (∀ nn, Calls Tryz.prog 84 #[.int .i64 x.id, .int .i64 1, .int .i64 1000] (W1.drewN nn) fun e w' => e = .returned (.bool true) ∧ w' = W1.drewN nn) := Lib.hid (fun nn => (refIn_any x.id 1 1000).mono fun _ _ h => ⟨by rw [h.1, b0], h.2.symm⟩)
                  have C1 : Hid (∀ nn, Calls Tryz.prog 77 #[.string x.name] (W1.drewN nn) fun e w' => e = .returned (.bool true) ∧ w' = W1.drewN nn) := Lib.hid (fun nn => (refWordOk x.name HNX.out).mono fun _ _ h => ⟨by rw [h.1, b1], h.2.symm⟩)
                  have C2 : Hid (∀ nn, Calls Tryz.prog 84 #[.int .i64 x.home, .int .i64 1, .int .i64 1000] (W1.drewN nn) fun e w' => e = .returned (.bool false) ∧ w' = W1.drewN nn) := Lib.hid (fun nn => (refIn_any x.home 1 1000).mono fun _ _ h => ⟨by rw [h.1, b2], h.2.symm⟩)
                  have HF : Hid (okMobP x = false) := Lib.hid (by unfold okMobP; rw [b0, b1, b2]; simp)
                  clear b0 b1 b2
                  go_wp2
                  go_quiet (first | (go_at_call 84; with_reducible refine Calls.quiet_of_same (C0.out _)) | (go_at_call 77; with_reducible refine Calls.quiet_of_same (C1.out _)) | (go_at_call 84; with_reducible refine Calls.quiet_of_same (C2.out _)))
                  go_wp2
                  go_ret
                  exact HBAD.out _ (kdrewB _ _) (.inl HF.out)
                | true =>
                  cases b3 : inB x.hp 1 10000 with
                  | false =>
                    have C0 : Hid (∀ nn, Calls Tryz.prog 84 #[.int .i64 x.id, .int .i64 1, .int .i64 1000] (W1.drewN nn) fun e w' => e = .returned (.bool true) ∧ w' = W1.drewN nn) := Lib.hid (fun nn => (refIn_any x.id 1 1000).mono fun _ _ h => ⟨by rw [h.1, b0], h.2.symm⟩)
                    have C1 : Hid (∀ nn, Calls Tryz.prog 77 #[.string x.name] (W1.drewN nn) fun e w' => e = .returned (.bool true) ∧ w' = W1.drewN nn) := Lib.hid (fun nn => (refWordOk x.name HNX.out).mono fun _ _ h => ⟨by rw [h.1, b1], h.2.symm⟩)
                    have C2 : Hid (∀ nn, Calls Tryz.prog 84 #[.int .i64 x.home, .int .i64 1, .int .i64 1000] (W1.drewN nn) fun e w' => e = .returned (.bool true) ∧ w' = W1.drewN nn) := Lib.hid (fun nn => (refIn_any x.home 1 1000).mono fun _ _ h => ⟨by rw [h.1, b2], h.2.symm⟩)
                    have C3 : Hid (∀ nn, Calls Tryz.prog 84 #[.int .i64 x.hp, .int .i64 1, .int .i64 10000] (W1.drewN nn) fun e w' => e = .returned (.bool false) ∧ w' = W1.drewN nn) := Lib.hid (fun nn => (refIn_any x.hp 1 10000).mono fun _ _ h => ⟨by rw [h.1, b3], h.2.symm⟩)
                    have HF : Hid (okMobP x = false) := Lib.hid (by unfold okMobP; rw [b0, b1, b2, b3]; simp)
                    clear b0 b1 b2 b3
                    go_wp2
                    go_quiet (first | (go_at_call 84; with_reducible refine Calls.quiet_of_same (C0.out _)) | (go_at_call 77; with_reducible refine Calls.quiet_of_same (C1.out _)) | (go_at_call 84; with_reducible refine Calls.quiet_of_same (C2.out _)) | (go_at_call 84; with_reducible refine Calls.quiet_of_same (C3.out _)))
                    go_wp2
                    go_ret
                    exact HBAD.out _ (kdrewB _ _) (.inl HF.out)
                  | true =>
                    cases b4 : inB x.power 0 100 with
                    | false =>
                      have C0 : Hid (∀ nn, Calls Tryz.prog 84 #[.int .i64 x.id, .int .i64 1, .int .i64 1000] (W1.drewN nn) fun e w' => e = .returned (.bool true) ∧ w' = W1.drewN nn) := Lib.hid (fun nn => (refIn_any x.id 1 1000).mono fun _ _ h => ⟨by rw [h.1, b0], h.2.symm⟩)
                      have C1 : Hid (∀ nn, Calls Tryz.prog 77 #[.string x.name] (W1.drewN nn) fun e w' => e = .returned (.bool true) ∧ w' = W1.drewN nn) := Lib.hid (fun nn => (refWordOk x.name HNX.out).mono fun _ _ h => ⟨by rw [h.1, b1], h.2.symm⟩)
                      have C2 : Hid (∀ nn, Calls Tryz.prog 84 #[.int .i64 x.home, .int .i64 1, .int .i64 1000] (W1.drewN nn) fun e w' => e = .returned (.bool true) ∧ w' = W1.drewN nn) := Lib.hid (fun nn => (refIn_any x.home 1 1000).mono fun _ _ h => ⟨by rw [h.1, b2], h.2.symm⟩)
                      have C3 : Hid (∀ nn, Calls Tryz.prog 84 #[.int .i64 x.hp, .int .i64 1, .int .i64 10000] (W1.drewN nn) fun e w' => e = .returned (.bool true) ∧ w' = W1.drewN nn) := Lib.hid (fun nn => (refIn_any x.hp 1 10000).mono fun _ _ h => ⟨by rw [h.1, b3], h.2.symm⟩)
                      have C4 : Hid (∀ nn, Calls Tryz.prog 84 #[.int .i64 x.power, .int .i64 0, .int .i64 100] (W1.drewN nn) fun e w' => e = .returned (.bool false) ∧ w' = W1.drewN nn) := Lib.hid (fun nn => (refIn_any x.power 0 100).mono fun _ _ h => ⟨by rw [h.1, b4], h.2.symm⟩)
                      have HF : Hid (okMobP x = false) := Lib.hid (by unfold okMobP; rw [b0, b1, b2, b3, b4]; simp)
                      clear b0 b1 b2 b3 b4
                      go_wp2
                      go_quiet (first | (go_at_call 84; with_reducible refine Calls.quiet_of_same (C0.out _)) | (go_at_call 77; with_reducible refine Calls.quiet_of_same (C1.out _)) | (go_at_call 84; with_reducible refine Calls.quiet_of_same (C2.out _)) | (go_at_call 84; with_reducible refine Calls.quiet_of_same (C3.out _)) | (go_at_call 84; with_reducible refine Calls.quiet_of_same (C4.out _)))
                      go_wp2
                      go_ret
                      exact HBAD.out _ (kdrewB _ _) (.inl HF.out)
                    | true =>
                      cases b5 : inB x.xp 0 10000 with
                      | false =>
                        have C0 : Hid (∀ nn, Calls Tryz.prog 84 #[.int .i64 x.id, .int .i64 1, .int .i64 1000] (W1.drewN nn) fun e w' => e = .returned (.bool true) ∧ w' = W1.drewN nn) := Lib.hid (fun nn => (refIn_any x.id 1 1000).mono fun _ _ h => ⟨by rw [h.1, b0], h.2.symm⟩)
                        have C1 : Hid (∀ nn, Calls Tryz.prog 77 #[.string x.name] (W1.drewN nn) fun e w' => e = .returned (.bool true) ∧ w' = W1.drewN nn) := Lib.hid (fun nn => (refWordOk x.name HNX.out).mono fun _ _ h => ⟨by rw [h.1, b1], h.2.symm⟩)
                        have C2 : Hid (∀ nn, Calls Tryz.prog 84 #[.int .i64 x.home, .int .i64 1, .int .i64 1000] (W1.drewN nn) fun e w' => e = .returned (.bool true) ∧ w' = W1.drewN nn) := Lib.hid (fun nn => (refIn_any x.home 1 1000).mono fun _ _ h => ⟨by rw [h.1, b2], h.2.symm⟩)
                        have C3 : Hid (∀ nn, Calls Tryz.prog 84 #[.int .i64 x.hp, .int .i64 1, .int .i64 10000] (W1.drewN nn) fun e w' => e = .returned (.bool true) ∧ w' = W1.drewN nn) := Lib.hid (fun nn => (refIn_any x.hp 1 10000).mono fun _ _ h => ⟨by rw [h.1, b3], h.2.symm⟩)
                        have C4 : Hid (∀ nn, Calls Tryz.prog 84 #[.int .i64 x.power, .int .i64 0, .int .i64 100] (W1.drewN nn) fun e w' => e = .returned (.bool true) ∧ w' = W1.drewN nn) := Lib.hid (fun nn => (refIn_any x.power 0 100).mono fun _ _ h => ⟨by rw [h.1, b4], h.2.symm⟩)
                        have C5 : Hid (∀ nn, Calls Tryz.prog 84 #[.int .i64 x.xp, .int .i64 0, .int .i64 10000] (W1.drewN nn) fun e w' => e = .returned (.bool false) ∧ w' = W1.drewN nn) := Lib.hid (fun nn => (refIn_any x.xp 0 10000).mono fun _ _ h => ⟨by rw [h.1, b5], h.2.symm⟩)
                        have HF : Hid (okMobP x = false) := Lib.hid (by unfold okMobP; rw [b0, b1, b2, b3, b4, b5]; simp)
                        clear b0 b1 b2 b3 b4 b5
                        go_wp2
                        go_quiet (first | (go_at_call 84; with_reducible refine Calls.quiet_of_same (C0.out _)) | (go_at_call 77; with_reducible refine Calls.quiet_of_same (C1.out _)) | (go_at_call 84; with_reducible refine Calls.quiet_of_same (C2.out _)) | (go_at_call 84; with_reducible refine Calls.quiet_of_same (C3.out _)) | (go_at_call 84; with_reducible refine Calls.quiet_of_same (C4.out _)) | (go_at_call 84; with_reducible refine Calls.quiet_of_same (C5.out _)))
                        go_wp2
                        go_ret
                        exact HBAD.out _ (kdrewB _ _) (.inl HF.out)
                      | true =>
                        cases b6 : inB x.gold 0 1073741824 with
                        | false =>
                          have C0 : Hid (∀ nn, Calls Tryz.prog 84 #[.int .i64 x.id, .int .i64 1, .int .i64 1000] (W1.drewN nn) fun e w' => e = .returned (.bool true) ∧ w' = W1.drewN nn) := Lib.hid (fun nn => (refIn_any x.id 1 1000).mono fun _ _ h => ⟨by rw [h.1, b0], h.2.symm⟩)
                          have C1 : Hid (∀ nn, Calls Tryz.prog 77 #[.string x.name] (W1.drewN nn) fun e w' => e = .returned (.bool true) ∧ w' = W1.drewN nn) := Lib.hid (fun nn => (refWordOk x.name HNX.out).mono fun _ _ h => ⟨by rw [h.1, b1], h.2.symm⟩)
                          have C2 : Hid (∀ nn, Calls Tryz.prog 84 #[.int .i64 x.home, .int .i64 1, .int .i64 1000] (W1.drewN nn) fun e w' => e = .returned (.bool true) ∧ w' = W1.drewN nn) := Lib.hid (fun nn => (refIn_any x.home 1 1000).mono fun _ _ h => ⟨by rw [h.1, b2], h.2.symm⟩)
                          have C3 : Hid (∀ nn, Calls Tryz.prog 84 #[.int .i64 x.hp, .int .i64 1, .int .i64 10000] (W1.drewN nn) fun e w' => e = .returned (.bool true) ∧ w' = W1.drewN nn) := Lib.hid (fun nn => (refIn_any x.hp 1 10000).mono fun _ _ h => ⟨by rw [h.1, b3], h.2.symm⟩)
                          have C4 : Hid (∀ nn, Calls Tryz.prog 84 #[.int .i64 x.power, .int .i64 0, .int .i64 100] (W1.drewN nn) fun e w' => e = .returned (.bool true) ∧ w' = W1.drewN nn) := Lib.hid (fun nn => (refIn_any x.power 0 100).mono fun _ _ h => ⟨by rw [h.1, b4], h.2.symm⟩)
                          have C5 : Hid (∀ nn, Calls Tryz.prog 84 #[.int .i64 x.xp, .int .i64 0, .int .i64 10000] (W1.drewN nn) fun e w' => e = .returned (.bool true) ∧ w' = W1.drewN nn) := Lib.hid (fun nn => (refIn_any x.xp 0 10000).mono fun _ _ h => ⟨by rw [h.1, b5], h.2.symm⟩)
                          have C6 : Hid (∀ nn, Calls Tryz.prog 84 #[.int .i64 x.gold, .int .i64 0, .int .i64 1073741824] (W1.drewN nn) fun e w' => e = .returned (.bool false) ∧ w' = W1.drewN nn) := Lib.hid (fun nn => (refIn_any x.gold 0 1073741824).mono fun _ _ h => ⟨by rw [h.1, b6], h.2.symm⟩)
                          have HF : Hid (okMobP x = false) := Lib.hid (by unfold okMobP; rw [b0, b1, b2, b3, b4, b5, b6]; simp)
                          clear b0 b1 b2 b3 b4 b5 b6
                          go_wp2
                          go_quiet (first | (go_at_call 84; with_reducible refine Calls.quiet_of_same (C0.out _)) | (go_at_call 77; with_reducible refine Calls.quiet_of_same (C1.out _)) | (go_at_call 84; with_reducible refine Calls.quiet_of_same (C2.out _)) | (go_at_call 84; with_reducible refine Calls.quiet_of_same (C3.out _)) | (go_at_call 84; with_reducible refine Calls.quiet_of_same (C4.out _)) | (go_at_call 84; with_reducible refine Calls.quiet_of_same (C5.out _)) | (go_at_call 84; with_reducible refine Calls.quiet_of_same (C6.out _)))
                          go_wp2
                          go_ret
                          exact HBAD.out _ (kdrewB _ _) (.inl HF.out)
                        | true =>
                          have C0 : Hid (∀ nn, Calls Tryz.prog 84 #[.int .i64 x.id, .int .i64 1, .int .i64 1000] (W1.drewN nn) fun e w' => e = .returned (.bool true) ∧ w' = W1.drewN nn) := Lib.hid (fun nn => (refIn_any x.id 1 1000).mono fun _ _ h => ⟨by rw [h.1, b0], h.2.symm⟩)
                          have C1 : Hid (∀ nn, Calls Tryz.prog 77 #[.string x.name] (W1.drewN nn) fun e w' => e = .returned (.bool true) ∧ w' = W1.drewN nn) := Lib.hid (fun nn => (refWordOk x.name HNX.out).mono fun _ _ h => ⟨by rw [h.1, b1], h.2.symm⟩)
                          have C2 : Hid (∀ nn, Calls Tryz.prog 84 #[.int .i64 x.home, .int .i64 1, .int .i64 1000] (W1.drewN nn) fun e w' => e = .returned (.bool true) ∧ w' = W1.drewN nn) := Lib.hid (fun nn => (refIn_any x.home 1 1000).mono fun _ _ h => ⟨by rw [h.1, b2], h.2.symm⟩)
                          have C3 : Hid (∀ nn, Calls Tryz.prog 84 #[.int .i64 x.hp, .int .i64 1, .int .i64 10000] (W1.drewN nn) fun e w' => e = .returned (.bool true) ∧ w' = W1.drewN nn) := Lib.hid (fun nn => (refIn_any x.hp 1 10000).mono fun _ _ h => ⟨by rw [h.1, b3], h.2.symm⟩)
                          have C4 : Hid (∀ nn, Calls Tryz.prog 84 #[.int .i64 x.power, .int .i64 0, .int .i64 100] (W1.drewN nn) fun e w' => e = .returned (.bool true) ∧ w' = W1.drewN nn) := Lib.hid (fun nn => (refIn_any x.power 0 100).mono fun _ _ h => ⟨by rw [h.1, b4], h.2.symm⟩)
                          have C5 : Hid (∀ nn, Calls Tryz.prog 84 #[.int .i64 x.xp, .int .i64 0, .int .i64 10000] (W1.drewN nn) fun e w' => e = .returned (.bool true) ∧ w' = W1.drewN nn) := Lib.hid (fun nn => (refIn_any x.xp 0 10000).mono fun _ _ h => ⟨by rw [h.1, b5], h.2.symm⟩)
                          have C6 : Hid (∀ nn, Calls Tryz.prog 84 #[.int .i64 x.gold, .int .i64 0, .int .i64 1073741824] (W1.drewN nn) fun e w' => e = .returned (.bool true) ∧ w' = W1.drewN nn) := Lib.hid (fun nn => (refIn_any x.gold 0 1073741824).mono fun _ _ h => ⟨by rw [h.1, b6], h.2.symm⟩)
                          have HBS : Hid (inB x.id 1 1000 = true ∧ wordOk x.name = true ∧ inB x.home 1 1000 = true ∧ inB x.hp 1 10000 = true ∧ inB x.power 0 100 = true ∧ inB x.xp 0 10000 = true ∧ inB x.gold 0 1073741824 = true) := Lib.hid ⟨b0, b1, b2, b3, b4, b5, b6⟩
                          clear b0 b1 b2 b3 b4 b5 b6
                          by_cases hk0 : k = 0
                          · have dk : decide (0 < (k : Int)) = false := by rw [decide_eq_false_iff_not]; omega
                            have dk2 : decide (0 < k) = false := by rw [decide_eq_false_iff_not]; omega
                            have HOR : Hid (∀ y, 0 < k → LB[k - 1]? = some y → y.id < x.id) := Lib.hid (fun y h => by omega)
                            clear hk0
                            go_wp2
                            go_quiet (first | (go_at_call 84; with_reducible refine Calls.quiet_of_same (C0.out _)) | (go_at_call 77; with_reducible refine Calls.quiet_of_same (C1.out _)) | (go_at_call 84; with_reducible refine Calls.quiet_of_same (C2.out _)) | (go_at_call 84; with_reducible refine Calls.quiet_of_same (C3.out _)) | (go_at_call 84; with_reducible refine Calls.quiet_of_same (C4.out _)) | (go_at_call 84; with_reducible refine Calls.quiet_of_same (C5.out _)) | (go_at_call 84; with_reducible refine Calls.quiet_of_same (C6.out _)))
                            have HNX2 : Hid (RiseTo okMobP MobPM.id LB (k + 1)) := Lib.hid (HA.out.next HX.out (by obtain ⟨g0, g1, g2, g3, g4, g5, g6⟩ := HBS.out; unfold okMobP; simp [g0, g1, g2, g3, g4, g5, g6]) HOR.out)
                            go_wp2
                            go_roundw
                            case rel => exact ⟨k + 1, by omega, by go_num, HNX2.out, HK1.out.trans (kdrewB _ _) (fun _ h => h.elim)⟩
                            case measure => simp [intOf]; omega
                          · obtain ⟨m, hm⟩ : ∃ m, k = m + 1 := ⟨k - 1, by omega⟩
                            obtain ⟨y, hy, hyc⟩ := HPRE.out m hm
                            have z0 := hyc W1 HK1.out
                            have dk : decide (0 < (k : Int)) = true := by rw [decide_eq_true_eq]; omega
                            have dk2 : decide (0 < k) = true := by rw [decide_eq_true_eq]; omega
                            have e1 : (k : Int) - 1 = (m : Int) := by omega
                            have hml : m < LB.length := by omega
                            have HM := Lib.hid hm
                            have HY := Lib.hid hy
                            clear hm hy hyc hk0
                            by_cases hle : x.id ≤ y.id
                            · have dle : decide (x.id ≤ y.id) = true := by rw [decide_eq_true_eq]; exact hle
                              have HLE := Lib.hid hle
                              clear hle
                              go_wp2
                              go_quiet (first | (go_at_call 84; with_reducible refine Calls.quiet_of_same (C0.out _)) | (go_at_call 77; with_reducible refine Calls.quiet_of_same (C1.out _)) | (go_at_call 84; with_reducible refine Calls.quiet_of_same (C2.out _)) | (go_at_call 84; with_reducible refine Calls.quiet_of_same (C3.out _)) | (go_at_call 84; with_reducible refine Calls.quiet_of_same (C4.out _)) | (go_at_call 84; with_reducible refine Calls.quiet_of_same (C5.out _)) | (go_at_call 84; with_reducible refine Calls.quiet_of_same (C6.out _)))
                              go_wp2
                              go_ret
                              exact HBAD.out _ (kdrewB _ _) (.inr ⟨y, by have := HM.out; omega, by rw [show k - 1 = m by have := HM.out; omega]; exact HY.out, HLE.out⟩)
                            · have dle : decide (x.id ≤ y.id) = false := by rw [decide_eq_false_iff_not]; exact hle
                              have HOR : Hid (∀ y, 0 < k → LB[k - 1]? = some y → y.id < x.id) := Lib.hid (fun z _ hz => by rw [show k - 1 = m by have := HM.out; omega, HY.out] at hz; cases hz; omega)
                              clear hle
                              go_wp2
                              go_quiet (first | (go_at_call 84; with_reducible refine Calls.quiet_of_same (C0.out _)) | (go_at_call 77; with_reducible refine Calls.quiet_of_same (C1.out _)) | (go_at_call 84; with_reducible refine Calls.quiet_of_same (C2.out _)) | (go_at_call 84; with_reducible refine Calls.quiet_of_same (C3.out _)) | (go_at_call 84; with_reducible refine Calls.quiet_of_same (C4.out _)) | (go_at_call 84; with_reducible refine Calls.quiet_of_same (C5.out _)) | (go_at_call 84; with_reducible refine Calls.quiet_of_same (C6.out _)))
                              have HNX2 : Hid (RiseTo okMobP MobPM.id LB (k + 1)) := Lib.hid (HA.out.next HX.out (by obtain ⟨g0, g1, g2, g3, g4, g5, g6⟩ := HBS.out; unfold okMobP; simp [g0, g1, g2, g3, g4, g5, g6]) HOR.out)
                              go_wp2
                              go_roundw
                              case rel => exact ⟨k + 1, by omega, by go_num, HNX2.out, HK1.out.trans (kdrewB _ _) (fun _ h => h.elim)⟩
                              case measure => simp [intOf]; omega
        · have hd1 : decide (k < LB.length) = false := by rw [decide_eq_false_iff_not]; omega
          have HRB : Hid (Rise okMobP MobPM.id LB) := Lib.hid (RiseTo.all.2 (by have := HA.out; rwa [show k = LB.length by omega] at this))
          have HKP := HK
          clear HA hlt hk
          have pa := HPprotos.out wr HK.out
          by_cases h60A : LA.length ≤ 60
          · have d60A : decide ((LA.length : Int) ≤ 60) = true := by rw [decide_eq_true_eq]; omega
            have d61A : decide (LA.length ≤ 60) = true := by rw [decide_eq_true_eq]; omega
            by_cases h60B : LB.length ≤ 60
            · have d60B : decide ((LB.length : Int) ≤ 60) = true := by rw [decide_eq_true_eq]; omega
              have d61B : decide (LB.length ≤ 60) = true := by rw [decide_eq_true_eq]; omega
              go_wp2
              go_ret
              exact ⟨true, rfl, ⟨fun _ => ⟨HRA.out, HRB.out, h60A, h60B⟩, fun _ => rfl⟩, HK.out⟩
            · have d60B : decide ((LB.length : Int) ≤ 60) = false := by rw [decide_eq_false_iff_not]; omega
              have d61B : decide (LB.length ≤ 60) = false := by rw [decide_eq_false_iff_not]; omega
              go_wp2
              go_ret
              exact ⟨false, rfl, ⟨fun (h0 : false = true) => (by cases h0), fun h0 => absurd h0.2.2.2 h60B⟩, HK.out⟩
          · have d60A : decide ((LA.length : Int) ≤ 60) = false := by rw [decide_eq_false_iff_not]; omega
            have d61A : decide (LA.length ≤ 60) = false := by rw [decide_eq_false_iff_not]; omega
            go_wp2
            go_ret
            exact ⟨false, rfl, ⟨fun (h0 : false = true) => (by cases h0), fun h0 => absurd h0.2.2.1 h60A⟩, HK.out⟩
end Go.Proofs.YtcodbomgodkcmaaGreatDoor.Wd
