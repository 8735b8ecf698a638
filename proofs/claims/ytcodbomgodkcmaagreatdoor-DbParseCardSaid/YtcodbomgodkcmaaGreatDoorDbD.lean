/- World files: the reference's recipes, quests and shops (made by tools/gendb.py). -/
import Derived.Test.YtcodbomgodkcmaaGreatDoorDbC
namespace Go.Proofs.YtcodbomgodkcmaaGreatDoor.Wd
open Go.RowKit Go.Maps Go.Proofs.YtcodbomgodkcmaaGreatDoor Go.Proofs.YtcodbomgodkcmaaGreatDoor.Lin
set_option maxRecDepth 100000

/-- The front of j numbers is as it must be: st: strictly rising. -/
def NeedsTo (st : Bool) (l : List Int) (j : Nat) : Prop := ∀ i n, i < j → l[i]? = some n → inB n 1 1000 = true ∧ ∀ m, 0 < i → l[i - 1]? = some m → (if st then m < n else m ≤ n)
theorem NeedsTo.next {st : Bool} {l : List Int} {j : Nat} {n : Int} (h : NeedsTo st l j) (hn : l[j]? = some n) (h1 : inB n 1 1000 = true) (h2 : ∀ m, 0 < j → l[j - 1]? = some m → (if st then m < n else m ≤ n)) : NeedsTo st l (j + 1) := fun i z hi hz => by
  by_cases e : i = j
  · subst e; rw [hn] at hz; cases hz; exact ⟨h1, h2⟩
  · exact h i z (by omega) hz
def okSt (st : Bool) (l : List Int) : Prop := if st then okItems l else okNeeds l
theorem NeedsTo.all {st : Bool} {l : List Int} (h : NeedsTo st l l.length) : okSt st l := by
  have h1 : ∀ n ∈ l, inB n 1 1000 = true := fun n hn => by
    obtain ⟨j, hj, rfl⟩ := List.mem_iff_getElem.1 hn
    exact (h j _ hj (List.getElem?_eq_getElem hj)).1
  have h2 : ∀ i j (hi : i < l.length) (hj : j < l.length), i < j → (if st then l[i] < l[j] else l[i] ≤ l[j]) := by
    intro i j hi hj hij
    induction j with
    | zero => omega
    | succ j ih =>
      have h1 := (h (j + 1) _ hj (List.getElem?_eq_getElem hj)).2 _ (by omega) (by rw [show j + 1 - 1 = j by omega]; exact List.getElem?_eq_getElem (by omega))
      by_cases e : i = j
      · subst e; exact h1
      · have := ih (by omega) (by omega)
        cases st <;> simp at this h1 ⊢ <;> omega
  cases st
  · exact ⟨h1, List.pairwise_iff_getElem.2 fun i j hi hj hij => by simpa using h2 i j hi hj hij⟩
  · exact ⟨h1, List.pairwise_iff_getElem.2 fun i j hi hj hij => by simpa using h2 i j hi hj hij⟩
theorem NeedsTo.fail {st : Bool} {l : List Int} {j : Nat} {n : Int} (hn : l[j]? = some n) (h : inB n 1 1000 = false ∨ ∃ m, 0 < j ∧ l[j - 1]? = some m ∧ (if st then n ≤ m else n < m)) : ¬ okSt st l := by
  obtain ⟨hj, e⟩ := List.getElem?_eq_some_iff.1 hn
  intro hh
  have h0 : ∀ n ∈ l, inB n 1 1000 = true := by cases st <;> exact hh.1
  rcases h with h | ⟨m, hp, hm, hc⟩
  · rw [h0 n (List.mem_of_getElem? hn)] at h; cases h
  · obtain ⟨hi, e2⟩ := List.getElem?_eq_some_iff.1 hm
    cases st
    · have := List.pairwise_iff_getElem.1 hh.2 (j - 1) j hi hj (by omega)
      rw [e, e2] at this; simp at hc; omega
    · have := List.pairwise_iff_getElem.1 hh.2 (j - 1) j hi hj (by omega)
      rw [e, e2] at this; simp at hc; omega
theorem okRec_bad {x : RecM} (h : ¬ okSt false x.needs) : okRec x = false := by unfold okRec; rw [decide_eq_false (p := okNeeds x.needs) h]; simp
theorem okShop_bad {x : ShopM} (h : ¬ okSt true x.items) : okShop x = false := by unfold okShop; rw [decide_eq_false (p := okItems x.items) h]; simp
theorem okRec_good {x : RecM} (h : inB x.out 1 1000 = true) (h1 : ¬ x.needs.length < 1) (h2 : ¬ 5 < x.needs.length) (h3 : okSt false x.needs) : okRec x = true := by
  unfold okRec; rw [h, decide_eq_true (p := okNeeds x.needs) h3, decide_eq_true (p := 1 ≤ x.needs.length) (by omega), decide_eq_true (p := x.needs.length ≤ 5) (by omega)]; rfl
theorem okShop_good {x : ShopM} (h : inB x.room 1 1000 = true ∧ inB x.till 0 1073741824 = true) (h2 : ¬ 8 < x.items.length) (h3 : okSt true x.items) : okShop x = true := by
  unfold okShop gMax; rw [h.1, h.2, decide_eq_true (p := okItems x.items) h3, decide_eq_true (p := x.items.length ≤ 8) (by omega)]; rfl
structure NdR (st : Bool) (l : List Int) (w0 : World) (jv : Value) (wr : World) : Prop where
  ex : ∃ j : Nat, j ≤ l.length ∧ jv = .int .i64 (j : Int) ∧ NeedsTo st l j ∧ Keep (fun _ => False) w0 wr

theorem zrecs : ∃ Z : Array Value, Hid (∀ w : World, (zeroValue 83).run Tryz.prog w = .ok (.agg Z) w) ∧ Hid (Z.size = 2) :=
  ⟨#[.int .i64 0, .slice none 0 0], Lib.hid (fun w => by kernel_rfl), Lib.hid rfl⟩
theorem zquests : ∃ Z : Array Value, Hid (∀ w : World, (zeroValue 86).run Tryz.prog w = .ok (.agg Z) w) ∧ Hid (Z.size = 5) :=
  ⟨#[.int .i64 0, .int .i64 0, .int .i64 0, .int .i64 0, .int .i64 0], Lib.hid (fun w => by kernel_rfl), Lib.hid rfl⟩
theorem zshops : ∃ Z : Array Value, Hid (∀ w : World, (zeroValue 88).run Tryz.prog w = .ok (.agg Z) w) ∧ Hid (Z.size = 3) :=
  ⟨#[.int .i64 0, .int .i64 0, .slice none 0 0], Lib.hid (fun w => by kernel_rfl), Lib.hid rfl⟩

set_option maxHeartbeats 16000000 in
theorem refRest_any {w : World} {d o : Nat} {D : DbM} {P : Nat → Prop} (h : DbAt P w d o D) (hl : D.recs.length ≤ 1000000) (hl2 : D.quests.length ≤ 1000000) (hl3 : D.shops.length ≤ 1000000) (hn : ∀ r ∈ D.recs, r.needs.length ≤ 1000000) (hn2 : ∀ r ∈ D.shops, r.items.length ≤ 1000000) :
    Calls Tryz.prog 31 #[.pointer (some ⟨d, o, none⟩)] w fun e w' => ∃ b, e = .returned (.bool b) ∧ (b = true ↔ RestOk D) ∧ Keep (fun _ => False) w w' := by
  obtain ⟨v1, v2, v3, v4, v5, v6, rr, ss, hd, hr, _, _, _, ⟨h4, hrr, hri⟩, h5, ⟨h6, hss, hsi⟩, _⟩ := h.ex
  have HPrecs : Hid (∀ w9, Keep (fun _ => False) w w9 → w9.cell? ⟨d, o + 3, none⟩ = some v4) := Lib.hid (fun w9 k => (k.cell hd (fun h => h) _).trans (hr 3 _ rfl))
  have H1A := Lib.hid h4
  obtain ⟨aA, capA, rfl, hcA, hccA⟩ := h4.slice
  have HPquests : Hid (∀ w9, Keep (fun _ => False) w w9 → w9.cell? ⟨d, o + 4, none⟩ = some v5) := Lib.hid (fun w9 k => (k.cell hd (fun h => h) _).trans (hr 4 _ rfl))
  have H1B := Lib.hid h5
  obtain ⟨aB, capB, rfl, hcB, hccB⟩ := h5.slice
  have HPshops : Hid (∀ w9, Keep (fun _ => False) w w9 → w9.cell? ⟨d, o + 5, none⟩ = some v6) := Lib.hid (fun w9 k => (k.cell hd (fun h => h) _).trans (hr 5 _ rfl))
  have H1C := Lib.hid h6
  obtain ⟨aC, capC, rfl, hcC, hccC⟩ := h6.slice
  unfold maxLen at hccA hccB hccC
  obtain ⟨LLA, hLLA⟩ : ∃ L, L = rr := ⟨_, rfl⟩
  obtain ⟨LLC, hLLC⟩ : ∃ L, L = ss := ⟨_, rfl⟩
  rw [← hLLA] at H1A HPrecs hcA hri hrr
  rw [← hLLC] at H1C HPshops hcC hsi hss
  have HINTA := Lib.hid hri
  have HINTC := Lib.hid hsi
  obtain ⟨LA, hLA⟩ : ∃ L, L = D.recs := ⟨_, rfl⟩
  obtain ⟨LB, hLB⟩ : ∃ L, L = D.quests := ⟨_, rfl⟩
  obtain ⟨LC, hLC⟩ : ∃ L, L = D.shops := ⟨_, rfl⟩
  unfold RestOk
  rw [← hLA] at hrr hl hn ⊢
  rw [← hLB] at H1B HPquests hcB hl2 ⊢
  rw [← hLC] at hss hl3 hn2 ⊢
  have HLLA := Lib.hid hrr
  have HLLC := Lib.hid hss
  have eA : LLA.length = LA.length := by rw [← hrr, List.length_map]
  have eC : LLC.length = LC.length := by rw [← hss, List.length_map]
  rw [eA] at HPrecs hcA
  rw [eC] at HPshops hcC
  have HNLA : Hid (∀ x ∈ LLA, x.1.needs.length ≤ 1000000) := Lib.hid (fun x hx => hn x.1 (by rw [← hrr]; exact List.mem_map_of_mem hx))
  have HNLC : Hid (∀ x ∈ LLC, x.1.items.length ≤ 1000000) := Lib.hid (fun x hx => hn2 x.1 (by rw [← hss]; exact List.mem_map_of_mem hx))
  have HEA := Lib.hid eA
  have HEC := Lib.hid eC
  have H1A9 : Hid (Row w 83 2 (.slice aA LA.length capA) LA.length (flat recC LLA)) := Lib.hid (by have := H1A.out; unfold Rec at this; rwa [eA] at this)
  have H1C9 : Hid (Row w 88 3 (.slice aC LC.length capC) LC.length (flat shopC LLC)) := Lib.hid (by have := H1C.out; unfold Rec at this; rwa [eC] at this)
  rw [eA] at H1A
  rw [eC] at H1C
  obtain ⟨Za, HZa, HZSrecs⟩ := zrecs
  obtain ⟨Zb, HZb, HZSquests⟩ := zquests
  obtain ⟨Zc, HZc, HZSshops⟩ := zshops
  have HZrecs := Lib.hid HZa
  have HZquests := Lib.hid HZb
  have HZshops := Lib.hid HZc
  have p0 := HPrecs.out w (Keep.refl _ _)
  clear h hr h4 h5 h6 hLA hLB hLC hLLA hLLC hn hn2 HZa HZb HZc hrr hss hri hsi eA eC H1A9 H1C9
  go_enter Tryz.func31, Tryz.ntmps31
  go_wp2
  go_loopw [3] (fun iv wr => RiR okRec RecM.out LA w iv wr) (fun iv _ => LA.length - (intOf iv).toNat)
  case atStart => exact ⟨0, by omega, rfl, RiseTo.zero _ _ _, Keep.refl _ _⟩
  case round =>
    obtain ⟨k, hk, rfl, hall, hK⟩ := hrel.ex
    have HA := Lib.hid hall; have HK := Lib.hid hK
    clear hall hrel hK
    have p2 := HPrecs.out wr HK.out
    by_cases hlt : k < LA.length
    · as_aux_lemma =>
        have hd1 : decide (k < LA.length) = true := by simpa using hlt
        obtain ⟨⟨x, xv⟩, hx⟩ : ∃ x, LLA[k]? = some x := ⟨_, List.getElem?_eq_getElem (by rw [← HLLA.out, List.length_map] at hlt; exact hlt)⟩
        obtain ⟨g, off, rfl, hg⟩ := H1A.out.some hx
        have hrg : wr.rangeAt g (off + k * 2) (recC (x, xv)) := range_keep (H1A.out.range recC_len k (x, xv) hx) HK.out hg (fun h => h)
        obtain ⟨xa, xc, hxv, hxc, hxc2⟩ : ∃ xa xc, xv = .slice xa x.needs.length xc ∧ x.needs.length ≤ xc ∧ xc ≤ maxLen := (HINTA.out _ (List.mem_of_getElem? hx)).slice
        subst hxv
        unfold maxLen at hxc2
        have q0 : wr.cell? ⟨g, off + k * 2, none⟩ = some (.int .i64 x.out) := hrg 0 _ rfl
        have q1 : wr.cell? ⟨g, off + k * 2 + 1, none⟩ = some (.slice xa x.needs.length xc) := hrg 1 _ rfl
        have HIN := Lib.hid (HINTA.out _ (List.mem_of_getElem? hx))
        have HX : Hid (LA[k]? = some x) := Lib.hid (by rw [← HLLA.out, List.getElem?_map, hx]; rfl)
        have hxl : x.needs.length ≤ 1000000 := HNLA.out _ (List.mem_of_getElem? hx)
        have HPRE : Hid (∀ m : Nat, k = m + 1 → ∃ (y : RecM), LA[m]? = some y ∧ ∀ w9, Keep (fun _ => False) w w9 → w9.cell? ⟨g, off + m * 2, none⟩ = some (.int .i64 y.out)) := Lib.hid (fun m hm => by
          obtain ⟨⟨y, yv⟩, hy⟩ : ∃ y, LLA[m]? = some y := ⟨_, List.getElem?_eq_getElem (by rw [← HLLA.out, List.length_map] at hlt; omega)⟩
          exact ⟨y, by rw [← HLLA.out, List.getElem?_map, hy]; rfl, fun w9 k9 => (k9.cell hg (fun h => h) _).trans (H1A.out.cell recC_len m 0 (y, yv) hy (by omega))⟩)
        clear hrg hx
        go_wp2_with (refine Cd.wpList_var_arr (C := (recC (x, .slice xa x.needs.length xc)).toArray) HZrecs.out rfl HZSrecs.out (by simp [recC, Value.oneCell']) rfl rfl rfl (.tmp 4) (.tmp 26) rfl rfl rfl ?_; simp only [Act.put, List.setIfInBounds_toArray, List.set_cons_succ, List.set_cons_zero])
        have HB : Hid ((wr.alloc (.cells (recC (x, .slice xa x.needs.length xc)).toArray 83)).heap[wr.heap.size]? = some (.cells (recC (x, .slice xa x.needs.length xc)).toArray 83 (0, 0))) := Lib.hid (heap_alloc_new wr _)
        have HK1 : Hid (Keep (fun _ => False) w (wr.alloc (.cells (recC (x, .slice xa x.needs.length xc)).toArray 83))) := Lib.hid (HK.out.alloc _)
        generalize wr.alloc (.cells (recC (x, .slice xa x.needs.length xc)).toArray 83) = W1 at HB HK1 ⊢
        generalize wr.heap.size = B at HB ⊢
        clear p2 HK q0 q1
        have c0 : W1.cell? ⟨B, 0, none⟩ = some (.int .i64 x.out) := (cell_of_row W1 B 0 _ _ _ HB.out).trans rfl
        have c1 : W1.cell? ⟨B, 1, none⟩ = some (.slice xa x.needs.length xc) := (cell_of_row W1 B 1 _ _ _ HB.out).trans rfl
        have p3 := HPrecs.out W1 HK1.out
        have HBAD : Hid (∀ (w9 : World) (k9 : Keep (fun _ => False) W1 w9) (h : okRec x = false ∨ ∃ y, 0 < k ∧ LA[k - 1]? = some y ∧ x.out ≤ y.out), ∃ b, Ending.returned (.bool false) = .returned (.bool b) ∧ (b = true ↔ Rise okRec RecM.out LA ∧ Rise okQuest QuestM.id LB ∧ Rise okShop ShopM.room LC ∧ LA.length ≤ 60 ∧ LB.length ≤ 60 ∧ LC.length ≤ 60) ∧ Keep (fun _ => False) w w9) := Lib.hid (fun w9 k9 h => ⟨false, rfl, ⟨fun (h0 : false = true) => (by cases h0), fun h0 => absurd h0.1 (RiseTo.fail HX.out h)⟩, (HK1.out.trans k9 (fun _ h => h.elim))⟩)
        cases b0 : inB x.out 1 1000 with
        | false =>
          have C0 : Hid (∀ nn, Calls Tryz.prog 84 #[.int .i64 x.out, .int .i64 1, .int .i64 1000] (W1.drewN nn) fun e w' => e = .returned (.bool false) ∧ w' = W1.drewN nn) := Lib.hid (fun nn => (refIn_any x.out 1 1000).mono fun _ _ h => ⟨by rw [h.1, b0], h.2.symm⟩)
          have HF : Hid (okRec x = false) := Lib.hid (by unfold okRec; rw [b0]; simp)
          clear b0
          go_wp2
          go_quiet (first | (go_at_call 84; with_reducible refine Calls.quiet_of_same (C0.out _)))
          go_wp2
          go_ret
          exact HBAD.out _ (kdrewB _ _) (.inl HF.out)
        | true =>
          by_cases hb1 : x.needs.length < 1
          · have hd1 : decide ((x.needs.length : Int) < 1) = true := by rw [decide_eq_true_eq]; omega
            have C0 : Hid (∀ nn, Calls Tryz.prog 84 #[.int .i64 x.out, .int .i64 1, .int .i64 1000] (W1.drewN nn) fun e w' => e = .returned (.bool true) ∧ w' = W1.drewN nn) := Lib.hid (fun nn => (refIn_any x.out 1 1000).mono fun _ _ h => ⟨by rw [h.1, b0], h.2.symm⟩)
            have HF : Hid (okRec x = false) := Lib.hid (by unfold okRec; rw [decide_eq_false (p := 1 ≤ x.needs.length) (by omega)]; simp)
            clear b0
            go_wp2
            go_quiet (first | (go_at_call 84; with_reducible refine Calls.quiet_of_same (C0.out _)))
            go_wp2
            go_ret
            exact HBAD.out _ (kdrewB _ _) (.inl HF.out)
          have hd1 : decide ((x.needs.length : Int) < 1) = false := by rw [decide_eq_false_iff_not]; omega
          by_cases hb2 : 5 < x.needs.length
          · have hd2 : decide (5 < (x.needs.length : Int)) = true := by rw [decide_eq_true_eq]; omega
            have C0 : Hid (∀ nn, Calls Tryz.prog 84 #[.int .i64 x.out, .int .i64 1, .int .i64 1000] (W1.drewN nn) fun e w' => e = .returned (.bool true) ∧ w' = W1.drewN nn) := Lib.hid (fun nn => (refIn_any x.out 1 1000).mono fun _ _ h => ⟨by rw [h.1, b0], h.2.symm⟩)
            have HF : Hid (okRec x = false) := Lib.hid (by unfold okRec; rw [decide_eq_false (p := x.needs.length ≤ 5) (by omega)]; simp)
            clear b0
            go_wp2
            go_quiet (first | (go_at_call 84; with_reducible refine Calls.quiet_of_same (C0.out _)))
            go_wp2
            go_ret
            exact HBAD.out _ (kdrewB _ _) (.inl HF.out)
          have hd2 : decide (5 < (x.needs.length : Int)) = false := by rw [decide_eq_false_iff_not]; omega
          have C0 : Hid (∀ nn, Calls Tryz.prog 84 #[.int .i64 x.out, .int .i64 1, .int .i64 1000] (W1.drewN nn) fun e w' => e = .returned (.bool true) ∧ w' = W1.drewN nn) := Lib.hid (fun nn => (refIn_any x.out 1 1000).mono fun _ _ h => ⟨by rw [h.1, b0], h.2.symm⟩)
          have HBS : Hid (inB x.out 1 1000 = true) := Lib.hid b0
          clear b0
          by_cases hk0 : k = 0
          · have dk : decide (0 < (k : Int)) = false := by rw [decide_eq_false_iff_not]; omega
            have dk2 : decide (0 < k) = false := by rw [decide_eq_false_iff_not]; omega
            have HOR : Hid (∀ y, 0 < k → LA[k - 1]? = some y → y.out < x.out) := Lib.hid (fun y h => by omega)
            clear hk0
            go_wp2
            go_quiet (first | (go_at_call 84; with_reducible refine Calls.quiet_of_same (C0.out _)))
            have HB2 : Hid ((W1.drewN nq).heap[B]? = some (.cells (recC (x, .slice xa x.needs.length xc)).toArray 83 (0, 0))) := Lib.hid HB.out
            have HK2 : Hid (Keep (fun _ => False) W1 (W1.drewN nq)) := Lib.hid (kdrewB _ _)
            generalize W1.drewN nq = W2 at HB2 HK2 ⊢
            clear c0 c1 p3
            go_wp2
            go_loopw [5] (fun jv wq => NdR false x.needs W2 jv wq) (fun jv _ => x.needs.length - (intOf jv).toNat)
            case atStart => exact ⟨0, by omega, rfl, fun i n hi => by omega, Keep.refl _ _⟩
            case round =>
              obtain ⟨j, hj, rfl, hfr, hKj⟩ := hrel.ex
              have HFR := Lib.hid hfr; have HKJ := Lib.hid hKj
              clear hfr hKj hrel
              have hblt : B < W2.heap.size := lt_of_block HB2.out
              have cs : wr.cell? ⟨B, 1, none⟩ = some (.slice xa x.needs.length xc) := (HKJ.out.cell hblt (fun h => h) _).trans ((cell_of_row W2 B 1 _ _ _ HB2.out).trans rfl)
              have HKW : Hid (Keep (fun _ => False) W1 wr) := Lib.hid (HK2.out.trans HKJ.out (fun _ h => h.elim))
              by_cases hjl : j < x.needs.length
              · have dj : decide (j < x.needs.length) = true := by simpa using hjl
                obtain ⟨n, hn⟩ : ∃ n, x.needs[j]? = some n := ⟨_, List.getElem?_eq_getElem hjl⟩
                obtain ⟨_, ya, yc, hyv, _, _, hq⟩ := (HIN.out.keep (HK1.out.trans HKW.out (fun _ h => h.elim)) (fun _ _ _ h => h)).1
                simp only [Value.slice.injEq] at hyv
                obtain ⟨rfl, _, rfl⟩ := hyv
                obtain ⟨xg, xo, rfl, _, hq⟩ := hq.resolve_left (by omega)
                have cn : wr.cell? ⟨xg, xo + j, none⟩ = some (.int .i64 n) := hq j _ (icells_get hn)
                have HQ := Lib.hid hq
                have HNN := Lib.hid hn
                clear hq hn
                cases bn : inB n 1 1000 with
                | false =>
                  have C0 : Hid (∀ nn, Calls Tryz.prog 84 #[.int .i64 n, .int .i64 1, .int .i64 1000] (wr.drewN nn) fun e w' => e = .returned (.bool false) ∧ w' = wr.drewN nn) := Lib.hid (fun nn => (refIn_any n 1 1000).mono fun _ _ h => ⟨by rw [h.1, bn], h.2.symm⟩)
                  have HF : Hid (okRec x = false) := Lib.hid (okRec_bad (NeedsTo.fail (st := false) HNN.out (.inl bn)))
                  clear bn
                  go_wp2
                  go_quiet (first | (go_at_call 84; with_reducible refine Calls.quiet_of_same (C0.out _)))
                  go_wp2
                  go_ret
                  exact HBAD.out _ (HKW.out.trans (kdrewB _ _) (fun _ h => h.elim)) (.inl HF.out)
                | true =>
                  have C0 : Hid (∀ nn, Calls Tryz.prog 84 #[.int .i64 n, .int .i64 1, .int .i64 1000] (wr.drewN nn) fun e w' => e = .returned (.bool true) ∧ w' = wr.drewN nn) := Lib.hid (fun nn => (refIn_any n 1 1000).mono fun _ _ h => ⟨by rw [h.1, bn], h.2.symm⟩)
                  have HBN := Lib.hid bn
                  clear bn
                  by_cases hj0 : j = 0
                  · have dk9 : decide (0 < (j : Int)) = false := by rw [decide_eq_false_iff_not]; omega
                    have dk8 : decide (0 < j) = false := by rw [decide_eq_false_iff_not]; omega
                    have HN2 : Hid (NeedsTo false x.needs (j + 1)) := Lib.hid (HFR.out.next HNN.out HBN.out (fun m h => by omega))
                    clear hj0
                    go_wp2
                    go_quiet (first | (go_at_call 84; with_reducible refine Calls.quiet_of_same (C0.out _)))
                    go_wp2
                    go_roundw
                    case rel => exact ⟨j + 1, by omega, by go_num, HN2.out, HKJ.out.trans (kdrewB _ _) (fun _ h => h.elim)⟩
                    case measure => simp [intOf]; omega
                  · obtain ⟨i, hi⟩ : ∃ i, j = i + 1 := ⟨j - 1, by omega⟩
                    obtain ⟨m, hm⟩ : ∃ m, x.needs[i]? = some m := ⟨_, List.getElem?_eq_getElem (by omega)⟩
                    have cm : wr.cell? ⟨xg, xo + i, none⟩ = some (.int .i64 m) := HQ.out i _ (icells_get hm)
                    have dk9 : decide (0 < (j : Int)) = true := by rw [decide_eq_true_eq]; omega
                    have dk8 : decide (0 < j) = true := by rw [decide_eq_true_eq]; omega
                    have ei : (j : Int) - 1 = (i : Int) := by omega
                    have hil : i < x.needs.length := by omega
                    have HI9 := Lib.hid hi
                    have HM9 := Lib.hid hm
                    clear hi hm hj0
                    by_cases hle : n < m
                    · have dle : decide (n < m) = true := by rw [decide_eq_true_eq]; exact hle
                      have HF : Hid (okRec x = false) := Lib.hid (okRec_bad (NeedsTo.fail (st := false) HNN.out (.inr ⟨m, by have := HI9.out; omega, by rw [show j - 1 = i by have := HI9.out; omega]; exact HM9.out, by simpa using hle⟩)))
                      clear hle
                      go_wp2
                      go_quiet (first | (go_at_call 84; with_reducible refine Calls.quiet_of_same (C0.out _)))
                      go_wp2
                      go_ret
                      exact HBAD.out _ (HKW.out.trans (kdrewB _ _) (fun _ h => h.elim)) (.inl HF.out)
                    · have dle : decide (n < m) = false := by rw [decide_eq_false_iff_not]; exact hle
                      have HN2 : Hid (NeedsTo false x.needs (j + 1)) := Lib.hid (HFR.out.next HNN.out HBN.out (fun z _ hz => by rw [show j - 1 = i by have := HI9.out; omega, HM9.out] at hz; cases hz; simp; omega))
                      clear hle
                      go_wp2
                      go_quiet (first | (go_at_call 84; with_reducible refine Calls.quiet_of_same (C0.out _)))
                      go_wp2
                      go_roundw
                      case rel => exact ⟨j + 1, by omega, by go_num, HN2.out, HKJ.out.trans (kdrewB _ _) (fun _ h => h.elim)⟩
                      case measure => simp [intOf]; omega
              · have dj : decide (j < x.needs.length) = false := by rw [decide_eq_false_iff_not]; omega
                have HNX2 : Hid (RiseTo okRec RecM.out LA (k + 1)) := Lib.hid (HA.out.next HX.out (okRec_good HBS.out (by omega) (by omega) (NeedsTo.all (st := false) (by have := HFR.out; rwa [show j = x.needs.length by omega] at this))) HOR.out)
                go_wp2
                go_roundw
                case rel => exact ⟨k + 1, by omega, by go_num, HNX2.out, HK1.out.trans HKW.out (fun _ h => h.elim)⟩
                case measure => simp [intOf]; omega
          · obtain ⟨m, hm⟩ : ∃ m, k = m + 1 := ⟨k - 1, by omega⟩
            obtain ⟨y, hy, hyc⟩ := HPRE.out m hm
            have z0 := hyc W1 HK1.out
            have dk : decide (0 < (k : Int)) = true := by rw [decide_eq_true_eq]; omega
            have dk2 : decide (0 < k) = true := by rw [decide_eq_true_eq]; omega
            have e1 : (k : Int) - 1 = (m : Int) := by omega
            have hml : m < LA.length := by omega
            have HM := Lib.hid hm
            have HY := Lib.hid hy
            clear hm hy hyc hk0
            by_cases hle : x.out ≤ y.out
            · have dle : decide (x.out ≤ y.out) = true := by rw [decide_eq_true_eq]; exact hle
              have HLE := Lib.hid hle
              clear hle
              go_wp2
              go_quiet (first | (go_at_call 84; with_reducible refine Calls.quiet_of_same (C0.out _)))
              go_wp2
              go_ret
              exact HBAD.out _ (kdrewB _ _) (.inr ⟨y, by have := HM.out; omega, by rw [show k - 1 = m by have := HM.out; omega]; exact HY.out, HLE.out⟩)
            · have dle : decide (x.out ≤ y.out) = false := by rw [decide_eq_false_iff_not]; exact hle
              have HOR : Hid (∀ y, 0 < k → LA[k - 1]? = some y → y.out < x.out) := Lib.hid (fun z _ hz => by rw [show k - 1 = m by have := HM.out; omega, HY.out] at hz; cases hz; omega)
              clear hle
              go_wp2
              go_quiet (first | (go_at_call 84; with_reducible refine Calls.quiet_of_same (C0.out _)))
              have HB2 : Hid ((W1.drewN nq).heap[B]? = some (.cells (recC (x, .slice xa x.needs.length xc)).toArray 83 (0, 0))) := Lib.hid HB.out
              have HK2 : Hid (Keep (fun _ => False) W1 (W1.drewN nq)) := Lib.hid (kdrewB _ _)
              generalize W1.drewN nq = W2 at HB2 HK2 ⊢
              clear c0 c1 p3
              go_wp2
              go_loopw [5] (fun jv wq => NdR false x.needs W2 jv wq) (fun jv _ => x.needs.length - (intOf jv).toNat)
              case atStart => exact ⟨0, by omega, rfl, fun i n hi => by omega, Keep.refl _ _⟩
              case round =>
                obtain ⟨j, hj, rfl, hfr, hKj⟩ := hrel.ex
                have HFR := Lib.hid hfr; have HKJ := Lib.hid hKj
                clear hfr hKj hrel
                have hblt : B < W2.heap.size := lt_of_block HB2.out
                have cs : wr.cell? ⟨B, 1, none⟩ = some (.slice xa x.needs.length xc) := (HKJ.out.cell hblt (fun h => h) _).trans ((cell_of_row W2 B 1 _ _ _ HB2.out).trans rfl)
                have HKW : Hid (Keep (fun _ => False) W1 wr) := Lib.hid (HK2.out.trans HKJ.out (fun _ h => h.elim))
                by_cases hjl : j < x.needs.length
                · have dj : decide (j < x.needs.length) = true := by simpa using hjl
                  obtain ⟨n, hn⟩ : ∃ n, x.needs[j]? = some n := ⟨_, List.getElem?_eq_getElem hjl⟩
                  obtain ⟨_, ya, yc, hyv, _, _, hq⟩ := (HIN.out.keep (HK1.out.trans HKW.out (fun _ h => h.elim)) (fun _ _ _ h => h)).1
                  simp only [Value.slice.injEq] at hyv
                  obtain ⟨rfl, _, rfl⟩ := hyv
                  obtain ⟨xg, xo, rfl, _, hq⟩ := hq.resolve_left (by omega)
                  have cn : wr.cell? ⟨xg, xo + j, none⟩ = some (.int .i64 n) := hq j _ (icells_get hn)
                  have HQ := Lib.hid hq
                  have HNN := Lib.hid hn
                  clear hq hn
                  cases bn : inB n 1 1000 with
                  | false =>
                    have C0 : Hid (∀ nn, Calls Tryz.prog 84 #[.int .i64 n, .int .i64 1, .int .i64 1000] (wr.drewN nn) fun e w' => e = .returned (.bool false) ∧ w' = wr.drewN nn) := Lib.hid (fun nn => (refIn_any n 1 1000).mono fun _ _ h => ⟨by rw [h.1, bn], h.2.symm⟩)
                    have HF : Hid (okRec x = false) := Lib.hid (okRec_bad (NeedsTo.fail (st := false) HNN.out (.inl bn)))
                    clear bn
                    go_wp2
                    go_quiet (first | (go_at_call 84; with_reducible refine Calls.quiet_of_same (C0.out _)))
                    go_wp2
                    go_ret
                    exact HBAD.out _ (HKW.out.trans (kdrewB _ _) (fun _ h => h.elim)) (.inl HF.out)
                  | true =>
                    have C0 : Hid (∀ nn, Calls Tryz.prog 84 #[.int .i64 n, .int .i64 1, .int .i64 1000] (wr.drewN nn) fun e w' => e = .returned (.bool true) ∧ w' = wr.drewN nn) := Lib.hid (fun nn => (refIn_any n 1 1000).mono fun _ _ h => ⟨by rw [h.1, bn], h.2.symm⟩)
                    have HBN := Lib.hid bn
                    clear bn
                    by_cases hj0 : j = 0
                    · have dk9 : decide (0 < (j : Int)) = false := by rw [decide_eq_false_iff_not]; omega
                      have dk8 : decide (0 < j) = false := by rw [decide_eq_false_iff_not]; omega
                      have HN2 : Hid (NeedsTo false x.needs (j + 1)) := Lib.hid (HFR.out.next HNN.out HBN.out (fun m h => by omega))
                      clear hj0
                      go_wp2
                      go_quiet (first | (go_at_call 84; with_reducible refine Calls.quiet_of_same (C0.out _)))
                      go_wp2
                      go_roundw
                      case rel => exact ⟨j + 1, by omega, by go_num, HN2.out, HKJ.out.trans (kdrewB _ _) (fun _ h => h.elim)⟩
                      case measure => simp [intOf]; omega
                    · obtain ⟨i, hi⟩ : ∃ i, j = i + 1 := ⟨j - 1, by omega⟩
                      obtain ⟨m, hm⟩ : ∃ m, x.needs[i]? = some m := ⟨_, List.getElem?_eq_getElem (by omega)⟩
                      have cm : wr.cell? ⟨xg, xo + i, none⟩ = some (.int .i64 m) := HQ.out i _ (icells_get hm)
                      have dk9 : decide (0 < (j : Int)) = true := by rw [decide_eq_true_eq]; omega
                      have dk8 : decide (0 < j) = true := by rw [decide_eq_true_eq]; omega
                      have ei : (j : Int) - 1 = (i : Int) := by omega
                      have hil : i < x.needs.length := by omega
                      have HI9 := Lib.hid hi
                      have HM9 := Lib.hid hm
                      clear hi hm hj0
                      by_cases hle : n < m
                      · have dle : decide (n < m) = true := by rw [decide_eq_true_eq]; exact hle
                        have HF : Hid (okRec x = false) := Lib.hid (okRec_bad (NeedsTo.fail (st := false) HNN.out (.inr ⟨m, by have := HI9.out; omega, by rw [show j - 1 = i by have := HI9.out; omega]; exact HM9.out, by simpa using hle⟩)))
                        clear hle
                        go_wp2
                        go_quiet (first | (go_at_call 84; with_reducible refine Calls.quiet_of_same (C0.out _)))
                        go_wp2
                        go_ret
                        exact HBAD.out _ (HKW.out.trans (kdrewB _ _) (fun _ h => h.elim)) (.inl HF.out)
                      · have dle : decide (n < m) = false := by rw [decide_eq_false_iff_not]; exact hle
                        have HN2 : Hid (NeedsTo false x.needs (j + 1)) := Lib.hid (HFR.out.next HNN.out HBN.out (fun z _ hz => by rw [show j - 1 = i by have := HI9.out; omega, HM9.out] at hz; cases hz; simp; omega))
                        clear hle
                        go_wp2
                        go_quiet (first | (go_at_call 84; with_reducible refine Calls.quiet_of_same (C0.out _)))
                        go_wp2
                        go_roundw
                        case rel => exact ⟨j + 1, by omega, by go_num, HN2.out, HKJ.out.trans (kdrewB _ _) (fun _ h => h.elim)⟩
                        case measure => simp [intOf]; omega
                · have dj : decide (j < x.needs.length) = false := by rw [decide_eq_false_iff_not]; omega
                  have HNX2 : Hid (RiseTo okRec RecM.out LA (k + 1)) := Lib.hid (HA.out.next HX.out (okRec_good HBS.out (by omega) (by omega) (NeedsTo.all (st := false) (by have := HFR.out; rwa [show j = x.needs.length by omega] at this))) HOR.out)
                  go_wp2
                  go_roundw
                  case rel => exact ⟨k + 1, by omega, by go_num, HNX2.out, HK1.out.trans HKW.out (fun _ h => h.elim)⟩
                  case measure => simp [intOf]; omega
    · have hd1 : decide (k < LA.length) = false := by rw [decide_eq_false_iff_not]; omega
      have HRA : Hid (Rise okRec RecM.out LA) := Lib.hid (RiseTo.all.2 (by have := HA.out; rwa [show k = LA.length by omega] at this))
      have HKP := HK
      clear HA hlt hk
      have p2b := HPquests.out wr HK.out
      go_wp2
      go_loopw [6] (fun iv wr => RiR okQuest QuestM.id LB w iv wr) (fun iv _ => LB.length - (intOf iv).toNat)
      case atStart => exact ⟨0, by omega, rfl, RiseTo.zero _ _ _, HKP.out⟩
      case round =>
        obtain ⟨k, hk, rfl, hall, hK⟩ := hrel.ex
        have HA := Lib.hid hall; have HK := Lib.hid hK
        clear hall hrel hK
        have p2 := HPquests.out wr HK.out
        by_cases hlt : k < LB.length
        · as_aux_lemma =>
            have hd1 : decide (k < LB.length) = true := by simpa using hlt
            obtain ⟨x, hx⟩ : ∃ x, LB[k]? = some x := ⟨_, List.getElem?_eq_getElem hlt⟩
            obtain ⟨g, off, rfl, hg⟩ := H1B.out.some hx
            have hrg : wr.rangeAt g (off + k * 5) (questC x) := range_keep (H1B.out.range questC_len k x hx) HK.out hg (fun h => h)
            have q0 : wr.cell? ⟨g, off + k * 5, none⟩ = some (.int .i64 x.id) := hrg 0 _ rfl
            have q1 : wr.cell? ⟨g, off + k * 5 + 1, none⟩ = some (.int .i64 x.item) := hrg 1 _ rfl
            have q2 : wr.cell? ⟨g, off + k * 5 + 2, none⟩ = some (.int .i64 x.count) := hrg 2 _ rfl
            have q3 : wr.cell? ⟨g, off + k * 5 + 3, none⟩ = some (.int .i64 x.gold) := hrg 3 _ rfl
            have q4 : wr.cell? ⟨g, off + k * 5 + 4, none⟩ = some (.int .i64 x.reward) := hrg 4 _ rfl
            have HX := Lib.hid hx
            have HPRE : Hid (∀ m : Nat, k = m + 1 → ∃ (y : QuestM), LB[m]? = some y ∧ ∀ w9, Keep (fun _ => False) w w9 → w9.cell? ⟨g, off + m * 5, none⟩ = some (.int .i64 y.id)) := Lib.hid (fun m hm => by
              obtain ⟨y, hy⟩ : ∃ y, LB[m]? = some y := ⟨_, List.getElem?_eq_getElem (by omega)⟩
              exact ⟨y, hy, fun w9 k9 => (k9.cell hg (fun h => h) _).trans (H1B.out.cell questC_len m 0 y hy (by omega))⟩)
            clear hrg hx
            go_wp2_with (refine Cd.wpList_var_arr (C := (questC x).toArray) HZquests.out rfl HZSquests.out (by simp [questC, Value.oneCell']) rfl rfl rfl (.tmp 7) (.tmp 108) rfl rfl rfl ?_; simp only [Act.put, List.setIfInBounds_toArray, List.set_cons_succ, List.set_cons_zero])
            have HB : Hid ((wr.alloc (.cells (questC x).toArray 86)).heap[wr.heap.size]? = some (.cells (questC x).toArray 86 (0, 0))) := Lib.hid (heap_alloc_new wr _)
            have HK1 : Hid (Keep (fun _ => False) w (wr.alloc (.cells (questC x).toArray 86))) := Lib.hid (HK.out.alloc _)
            generalize wr.alloc (.cells (questC x).toArray 86) = W1 at HB HK1 ⊢
            generalize wr.heap.size = B at HB ⊢
            clear p2 HK q0 q1 q2 q3 q4
            have c0 : W1.cell? ⟨B, 0, none⟩ = some (.int .i64 x.id) := (cell_of_row W1 B 0 _ _ _ HB.out).trans rfl
            have c1 : W1.cell? ⟨B, 1, none⟩ = some (.int .i64 x.item) := (cell_of_row W1 B 1 _ _ _ HB.out).trans rfl
            have c2 : W1.cell? ⟨B, 2, none⟩ = some (.int .i64 x.count) := (cell_of_row W1 B 2 _ _ _ HB.out).trans rfl
            have c3 : W1.cell? ⟨B, 3, none⟩ = some (.int .i64 x.gold) := (cell_of_row W1 B 3 _ _ _ HB.out).trans rfl
            have c4 : W1.cell? ⟨B, 4, none⟩ = some (.int .i64 x.reward) := (cell_of_row W1 B 4 _ _ _ HB.out).trans rfl
            have p3 := HPquests.out W1 HK1.out
            have HBAD : Hid (∀ (w9 : World) (k9 : Keep (fun _ => False) W1 w9) (h : okQuest x = false ∨ ∃ y, 0 < k ∧ LB[k - 1]? = some y ∧ x.id ≤ y.id), ∃ b, Ending.returned (.bool false) = .returned (.bool b) ∧ (b = true ↔ Rise okRec RecM.out LA ∧ Rise okQuest QuestM.id LB ∧ Rise okShop ShopM.room LC ∧ LA.length ≤ 60 ∧ LB.length ≤ 60 ∧ LC.length ≤ 60) ∧ Keep (fun _ => False) w w9) := Lib.hid (fun w9 k9 h => ⟨false, rfl, ⟨fun (h0 : false = true) => (by cases h0), fun h0 => absurd h0.2.1 (RiseTo.fail HX.out h)⟩, (HK1.out.trans k9 (fun _ h => h.elim))⟩)
            cases b0 : inB x.id 1 1000 with
            | false =>
              have C0 : Hid (∀ nn, Calls Tryz.prog 84 #[.int .i64 x.id, .int .i64 1, .int .i64 1000] (W1.drewN nn) fun e w' => e = .returned (.bool false) ∧ w' = W1.drewN nn) := Lib.hid (fun nn => (refIn_any x.id 1 1000).mono fun _ _ h => ⟨by rw [h.1, b0], h.2.symm⟩)
              have HF : Hid (okQuest x = false) := Lib.hid (by unfold okQuest; rw [b0]; simp)
              clear b0
              go_wp2
              go_quiet (first | (go_at_call 84; with_reducible refine Calls.quiet_of_same (C0.out _)))
              go_wp2
              go_ret
              exact HBAD.out _ (kdrewB _ _) (.inl HF.out)
            | true =>
              cases b1 : inB x.item 1 1000 with
              | false =>
                have C0 : Hid (∀ nn, Calls Tryz.prog 84 #[.int .i64 x.id, .int .i64 1, .int .i64 1000] (W1.drewN nn) fun e w' => e = .returned (.bool true) ∧ w' = W1.drewN nn) := Lib.hid (fun nn => (refIn_any x.id 1 1000).mono fun _ _ h => ⟨by rw [h.1, b0], h.2.symm⟩)
                have C1 : Hid (∀ nn, Calls Tryz.prog 84 #[.int .i64 x.item, .int .i64 1, .int .i64 1000] (W1.drewN nn) fun e w' => e = .returned (.bool false) ∧ w' = W1.drewN nn) := Lib.hid (fun nn => (refIn_any x.item 1 1000).mono fun _ _ h => ⟨by rw [h.1, b1], h.2.symm⟩)
                have HF : Hid (okQuest x = false) := Lib.hid (by unfold okQuest; rw [b0, b1]; simp)
                clear b0 b1
                go_wp2
                go_quiet (first | (go_at_call 84; with_reducible refine Calls.quiet_of_same (C0.out _)) | (go_at_call 84; with_reducible refine Calls.quiet_of_same (C1.out _)))
                go_wp2
                go_ret
                exact HBAD.out _ (kdrewB _ _) (.inl HF.out)
              | true =>
                cases b2 : inB x.count 1 5 with
                | false =>
                  have C0 : Hid (∀ nn, Calls Tryz.prog 84 #[.int .i64 x.id, .int .i64 1, .int .i64 1000] (W1.drewN nn) fun e w' => e = .returned (.bool true) ∧ w' = W1.drewN nn) := Lib.hid (fun nn => (refIn_any x.id 1 1000).mono fun _ _ h => ⟨by rw [h.1, b0], h.2.symm⟩)
                  have C1 : Hid (∀ nn, Calls Tryz.prog 84 #[.int .i64 x.item, .int .i64 1, .int .i64 1000] (W1.drewN nn) fun e w' => e = .returned (.bool true) ∧ w' = W1.drewN nn) := Lib.hid (fun nn => (refIn_any x.item 1 1000).mono fun _ _ h => ⟨by rw [h.1, b1], h.2.symm⟩)
                  have C2 : Hid (∀ nn, Calls Tryz.prog 84 #[.int .i64 x.count, .int .i64 1, .int .i64 5] (W1.drewN nn) fun e w' => e = .returned (.bool false) ∧ w' = W1.drewN nn) := Lib.hid (fun nn => (refIn_any x.count 1 5).mono fun _ _ h => ⟨by rw [h.1, b2], h.2.symm⟩)
                  have HF : Hid (okQuest x = false) := Lib.hid (by unfold okQuest; rw [b0, b1, b2]; simp)
                  clear b0 b1 b2
                  go_wp2
                  go_quiet (first | (go_at_call 84; with_reducible refine Calls.quiet_of_same (C0.out _)) | (go_at_call 84; with_reducible refine Calls.quiet_of_same (C1.out _)) | (go_at_call 84; with_reducible refine Calls.quiet_of_same (C2.out _)))
                  go_wp2
                  go_ret
                  exact HBAD.out _ (kdrewB _ _) (.inl HF.out)
                | true =>
                  cases b3 : inB x.gold 0 1073741824 with
                  | false =>
                    have C0 : Hid (∀ nn, Calls Tryz.prog 84 #[.int .i64 x.id, .int .i64 1, .int .i64 1000] (W1.drewN nn) fun e w' => e = .returned (.bool true) ∧ w' = W1.drewN nn) := Lib.hid (fun nn => (refIn_any x.id 1 1000).mono fun _ _ h => ⟨by rw [h.1, b0], h.2.symm⟩)
                    have C1 : Hid (∀ nn, Calls Tryz.prog 84 #[.int .i64 x.item, .int .i64 1, .int .i64 1000] (W1.drewN nn) fun e w' => e = .returned (.bool true) ∧ w' = W1.drewN nn) := Lib.hid (fun nn => (refIn_any x.item 1 1000).mono fun _ _ h => ⟨by rw [h.1, b1], h.2.symm⟩)
                    have C2 : Hid (∀ nn, Calls Tryz.prog 84 #[.int .i64 x.count, .int .i64 1, .int .i64 5] (W1.drewN nn) fun e w' => e = .returned (.bool true) ∧ w' = W1.drewN nn) := Lib.hid (fun nn => (refIn_any x.count 1 5).mono fun _ _ h => ⟨by rw [h.1, b2], h.2.symm⟩)
                    have C3 : Hid (∀ nn, Calls Tryz.prog 84 #[.int .i64 x.gold, .int .i64 0, .int .i64 1073741824] (W1.drewN nn) fun e w' => e = .returned (.bool false) ∧ w' = W1.drewN nn) := Lib.hid (fun nn => (refIn_any x.gold 0 1073741824).mono fun _ _ h => ⟨by rw [h.1, b3], h.2.symm⟩)
                    have HF : Hid (okQuest x = false) := Lib.hid (by unfold okQuest; rw [b0, b1, b2, b3]; simp)
                    clear b0 b1 b2 b3
                    go_wp2
                    go_quiet (first | (go_at_call 84; with_reducible refine Calls.quiet_of_same (C0.out _)) | (go_at_call 84; with_reducible refine Calls.quiet_of_same (C1.out _)) | (go_at_call 84; with_reducible refine Calls.quiet_of_same (C2.out _)) | (go_at_call 84; with_reducible refine Calls.quiet_of_same (C3.out _)))
                    go_wp2
                    go_ret
                    exact HBAD.out _ (kdrewB _ _) (.inl HF.out)
                  | true =>
                    cases b4 : inB x.reward 0 1000 with
                    | false =>
                      have C0 : Hid (∀ nn, Calls Tryz.prog 84 #[.int .i64 x.id, .int .i64 1, .int .i64 1000] (W1.drewN nn) fun e w' => e = .returned (.bool true) ∧ w' = W1.drewN nn) := Lib.hid (fun nn => (refIn_any x.id 1 1000).mono fun _ _ h => ⟨by rw [h.1, b0], h.2.symm⟩)
                      have C1 : Hid (∀ nn, Calls Tryz.prog 84 #[.int .i64 x.item, .int .i64 1, .int .i64 1000] (W1.drewN nn) fun e w' => e = .returned (.bool true) ∧ w' = W1.drewN nn) := Lib.hid (fun nn => (refIn_any x.item 1 1000).mono fun _ _ h => ⟨by rw [h.1, b1], h.2.symm⟩)
                      have C2 : Hid (∀ nn, Calls Tryz.prog 84 #[.int .i64 x.count, .int .i64 1, .int .i64 5] (W1.drewN nn) fun e w' => e = .returned (.bool true) ∧ w' = W1.drewN nn) := Lib.hid (fun nn => (refIn_any x.count 1 5).mono fun _ _ h => ⟨by rw [h.1, b2], h.2.symm⟩)
                      have C3 : Hid (∀ nn, Calls Tryz.prog 84 #[.int .i64 x.gold, .int .i64 0, .int .i64 1073741824] (W1.drewN nn) fun e w' => e = .returned (.bool true) ∧ w' = W1.drewN nn) := Lib.hid (fun nn => (refIn_any x.gold 0 1073741824).mono fun _ _ h => ⟨by rw [h.1, b3], h.2.symm⟩)
                      have C4 : Hid (∀ nn, Calls Tryz.prog 84 #[.int .i64 x.reward, .int .i64 0, .int .i64 1000] (W1.drewN nn) fun e w' => e = .returned (.bool false) ∧ w' = W1.drewN nn) := Lib.hid (fun nn => (refIn_any x.reward 0 1000).mono fun _ _ h => ⟨by rw [h.1, b4], h.2.symm⟩)
                      have HF : Hid (okQuest x = false) := Lib.hid (by unfold okQuest; rw [b0, b1, b2, b3, b4]; simp)
                      clear b0 b1 b2 b3 b4
                      go_wp2
                      go_quiet (first | (go_at_call 84; with_reducible refine Calls.quiet_of_same (C0.out _)) | (go_at_call 84; with_reducible refine Calls.quiet_of_same (C1.out _)) | (go_at_call 84; with_reducible refine Calls.quiet_of_same (C2.out _)) | (go_at_call 84; with_reducible refine Calls.quiet_of_same (C3.out _)) | (go_at_call 84; with_reducible refine Calls.quiet_of_same (C4.out _)))
                      go_wp2
                      go_ret
                      exact HBAD.out _ (kdrewB _ _) (.inl HF.out)
                    | true =>
                      have C0 : Hid (∀ nn, Calls Tryz.prog 84 #[.int .i64 x.id, .int .i64 1, .int .i64 1000] (W1.drewN nn) fun e w' => e = .returned (.bool true) ∧ w' = W1.drewN nn) := Lib.hid (fun nn => (refIn_any x.id 1 1000).mono fun _ _ h => ⟨by rw [h.1, b0], h.2.symm⟩)
                      have C1 : Hid (∀ nn, Calls Tryz.prog 84 #[.int .i64 x.item, .int .i64 1, .int .i64 1000] (W1.drewN nn) fun e w' => e = .returned (.bool true) ∧ w' = W1.drewN nn) := Lib.hid (fun nn => (refIn_any x.item 1 1000).mono fun _ _ h => ⟨by rw [h.1, b1], h.2.symm⟩)
                      have C2 : Hid (∀ nn, Calls Tryz.prog 84 #[.int .i64 x.count, .int .i64 1, .int .i64 5] (W1.drewN nn) fun e w' => e = .returned (.bool true) ∧ w' = W1.drewN nn) := Lib.hid (fun nn => (refIn_any x.count 1 5).mono fun _ _ h => ⟨by rw [h.1, b2], h.2.symm⟩)
                      have C3 : Hid (∀ nn, Calls Tryz.prog 84 #[.int .i64 x.gold, .int .i64 0, .int .i64 1073741824] (W1.drewN nn) fun e w' => e = .returned (.bool true) ∧ w' = W1.drewN nn) := Lib.hid (fun nn => (refIn_any x.gold 0 1073741824).mono fun _ _ h => ⟨by rw [h.1, b3], h.2.symm⟩)
                      have C4 : Hid (∀ nn, Calls Tryz.prog 84 #[.int .i64 x.reward, .int .i64 0, .int .i64 1000] (W1.drewN nn) fun e w' => e = .returned (.bool true) ∧ w' = W1.drewN nn) := Lib.hid (fun nn => (refIn_any x.reward 0 1000).mono fun _ _ h => ⟨by rw [h.1, b4], h.2.symm⟩)
                      have HBS : Hid (inB x.id 1 1000 = true ∧ inB x.item 1 1000 = true ∧ inB x.count 1 5 = true ∧ inB x.gold 0 1073741824 = true ∧ inB x.reward 0 1000 = true) := Lib.hid ⟨b0, b1, b2, b3, b4⟩
                      clear b0 b1 b2 b3 b4
                      by_cases hk0 : k = 0
                      · have dk : decide (0 < (k : Int)) = false := by rw [decide_eq_false_iff_not]; omega
                        have dk2 : decide (0 < k) = false := by rw [decide_eq_false_iff_not]; omega
                        have HOR : Hid (∀ y, 0 < k → LB[k - 1]? = some y → y.id < x.id) := Lib.hid (fun y h => by omega)
                        clear hk0
                        go_wp2
                        go_quiet (first | (go_at_call 84; with_reducible refine Calls.quiet_of_same (C0.out _)) | (go_at_call 84; with_reducible refine Calls.quiet_of_same (C1.out _)) | (go_at_call 84; with_reducible refine Calls.quiet_of_same (C2.out _)) | (go_at_call 84; with_reducible refine Calls.quiet_of_same (C3.out _)) | (go_at_call 84; with_reducible refine Calls.quiet_of_same (C4.out _)))
                        have HNX2 : Hid (RiseTo okQuest QuestM.id LB (k + 1)) := Lib.hid (HA.out.next HX.out (by obtain ⟨g0, g1, g2, g3, g4⟩ := HBS.out; unfold okQuest; simp [g0, g1, g2, g3, g4]) HOR.out)
                        go_wp2
                        go_roundw
                        case rel => exact ⟨k + 1, by omega, by go_num, HNX2.out, HK1.out.trans (kdrewB _ _) (fun _ h => h.elim)⟩
                        case measure => simp [intOf]; omega
                      · obtain ⟨m, hm⟩ : ∃ m, k = m + 1 := ⟨k - 1, by omega⟩
                        obtain ⟨y, hy, hyc⟩ := HPRE.out m hm
                        have z0 := hyc W1 HK1.out
                        have dk : decide (0 < (k : Int)) = true := by rw [decide_eq_true_eq]; omega
                        have dk2 : decide (0 < k) = true := by rw [decide_eq_true_eq]; omega
                        have e1 : (k : Int) - 1 = (m : Int) := by omega
                        have hml : m < LB.length := by omega
                        have HM := Lib.hid hm
                        have HY := Lib.hid hy
                        clear hm hy hyc hk0
                        by_cases hle : x.id ≤ y.id
                        · have dle : decide (x.id ≤ y.id) = true := by rw [decide_eq_true_eq]; exact hle
                          have HLE := Lib.hid hle
                          clear hle
                          go_wp2
                          go_quiet (first | (go_at_call 84; with_reducible refine Calls.quiet_of_same (C0.out _)) | (go_at_call 84; with_reducible refine Calls.quiet_of_same (C1.out _)) | (go_at_call 84; with_reducible refine Calls.quiet_of_same (C2.out _)) | (go_at_call 84; with_reducible refine Calls.quiet_of_same (C3.out _)) | (go_at_call 84; with_reducible refine Calls.quiet_of_same (C4.out _)))
                          go_wp2
                          go_ret
                          exact HBAD.out _ (kdrewB _ _) (.inr ⟨y, by have := HM.out; omega, by rw [show k - 1 = m by have := HM.out; omega]; exact HY.out, HLE.out⟩)
                        · have dle : decide (x.id ≤ y.id) = false := by rw [decide_eq_false_iff_not]; exact hle
                          have HOR : Hid (∀ y, 0 < k → LB[k - 1]? = some y → y.id < x.id) := Lib.hid (fun z _ hz => by rw [show k - 1 = m by have := HM.out; omega, HY.out] at hz; cases hz; omega)
                          clear hle
                          go_wp2
                          go_quiet (first | (go_at_call 84; with_reducible refine Calls.quiet_of_same (C0.out _)) | (go_at_call 84; with_reducible refine Calls.quiet_of_same (C1.out _)) | (go_at_call 84; with_reducible refine Calls.quiet_of_same (C2.out _)) | (go_at_call 84; with_reducible refine Calls.quiet_of_same (C3.out _)) | (go_at_call 84; with_reducible refine Calls.quiet_of_same (C4.out _)))
                          have HNX2 : Hid (RiseTo okQuest QuestM.id LB (k + 1)) := Lib.hid (HA.out.next HX.out (by obtain ⟨g0, g1, g2, g3, g4⟩ := HBS.out; unfold okQuest; simp [g0, g1, g2, g3, g4]) HOR.out)
                          go_wp2
                          go_roundw
                          case rel => exact ⟨k + 1, by omega, by go_num, HNX2.out, HK1.out.trans (kdrewB _ _) (fun _ h => h.elim)⟩
                          case measure => simp [intOf]; omega
        · have hd1 : decide (k < LB.length) = false := by rw [decide_eq_false_iff_not]; omega
          have HRB : Hid (Rise okQuest QuestM.id LB) := Lib.hid (RiseTo.all.2 (by have := HA.out; rwa [show k = LB.length by omega] at this))
          have HKP := HK
          clear HA hlt hk
          have p2c := HPshops.out wr HK.out
          go_wp2
          go_loopw [8] (fun iv wr => RiR okShop ShopM.room LC w iv wr) (fun iv _ => LC.length - (intOf iv).toNat)
          case atStart => exact ⟨0, by omega, rfl, RiseTo.zero _ _ _, HKP.out⟩
          case round =>
            obtain ⟨k, hk, rfl, hall, hK⟩ := hrel.ex
            have HA := Lib.hid hall; have HK := Lib.hid hK
            clear hall hrel hK
            have p2 := HPshops.out wr HK.out
            by_cases hlt : k < LC.length
            · as_aux_lemma =>
                have hd1 : decide (k < LC.length) = true := by simpa using hlt
                obtain ⟨⟨x, xv⟩, hx⟩ : ∃ x, LLC[k]? = some x := ⟨_, List.getElem?_eq_getElem (by rw [← HLLC.out, List.length_map] at hlt; exact hlt)⟩
                obtain ⟨g, off, rfl, hg⟩ := H1C.out.some hx
                have hrg : wr.rangeAt g (off + k * 3) (shopC (x, xv)) := range_keep (H1C.out.range shopC_len k (x, xv) hx) HK.out hg (fun h => h)
                obtain ⟨xa, xc, hxv, hxc, hxc2⟩ : ∃ xa xc, xv = .slice xa x.items.length xc ∧ x.items.length ≤ xc ∧ xc ≤ maxLen := (HINTC.out _ (List.mem_of_getElem? hx)).slice
                subst hxv
                unfold maxLen at hxc2
                have q0 : wr.cell? ⟨g, off + k * 3, none⟩ = some (.int .i64 x.room) := hrg 0 _ rfl
                have q1 : wr.cell? ⟨g, off + k * 3 + 1, none⟩ = some (.int .i64 x.till) := hrg 1 _ rfl
                have q2 : wr.cell? ⟨g, off + k * 3 + 2, none⟩ = some (.slice xa x.items.length xc) := hrg 2 _ rfl
                have HIN := Lib.hid (HINTC.out _ (List.mem_of_getElem? hx))
                have HX : Hid (LC[k]? = some x) := Lib.hid (by rw [← HLLC.out, List.getElem?_map, hx]; rfl)
                have hxl : x.items.length ≤ 1000000 := HNLC.out _ (List.mem_of_getElem? hx)
                have HPRE : Hid (∀ m : Nat, k = m + 1 → ∃ (y : ShopM), LC[m]? = some y ∧ ∀ w9, Keep (fun _ => False) w w9 → w9.cell? ⟨g, off + m * 3, none⟩ = some (.int .i64 y.room)) := Lib.hid (fun m hm => by
                  obtain ⟨⟨y, yv⟩, hy⟩ : ∃ y, LLC[m]? = some y := ⟨_, List.getElem?_eq_getElem (by rw [← HLLC.out, List.length_map] at hlt; omega)⟩
                  exact ⟨y, by rw [← HLLC.out, List.getElem?_map, hy]; rfl, fun w9 k9 => (k9.cell hg (fun h => h) _).trans (H1C.out.cell shopC_len m 0 (y, yv) hy (by omega))⟩)
                clear hrg hx
                go_wp2_with (refine Cd.wpList_var_arr (C := (shopC (x, .slice xa x.items.length xc)).toArray) HZshops.out rfl HZSshops.out (by simp [shopC, Value.oneCell']) rfl rfl rfl (.tmp 9) (.tmp 170) rfl rfl rfl ?_; simp only [Act.put, List.setIfInBounds_toArray, List.set_cons_succ, List.set_cons_zero])
                have HB : Hid ((wr.alloc (.cells (shopC (x, .slice xa x.items.length xc)).toArray 88)).heap[wr.heap.size]? = some (.cells (shopC (x, .slice xa x.items.length xc)).toArray 88 (0, 0))) := Lib.hid (heap_alloc_new wr _)
                have HK1 : Hid (Keep (fun _ => False) w (wr.alloc (.cells (shopC (x, .slice xa x.items.length xc)).toArray 88))) := Lib.hid (HK.out.alloc _)
                generalize wr.alloc (.cells (shopC (x, .slice xa x.items.length xc)).toArray 88) = W1 at HB HK1 ⊢
                generalize wr.heap.size = B at HB ⊢
                clear p2 HK q0 q1 q2
                have c0 : W1.cell? ⟨B, 0, none⟩ = some (.int .i64 x.room) := (cell_of_row W1 B 0 _ _ _ HB.out).trans rfl
                have c1 : W1.cell? ⟨B, 1, none⟩ = some (.int .i64 x.till) := (cell_of_row W1 B 1 _ _ _ HB.out).trans rfl
                have c2 : W1.cell? ⟨B, 2, none⟩ = some (.slice xa x.items.length xc) := (cell_of_row W1 B 2 _ _ _ HB.out).trans rfl
                have p3 := HPshops.out W1 HK1.out
                have HBAD : Hid (∀ (w9 : World) (k9 : Keep (fun _ => False) W1 w9) (h : okShop x = false ∨ ∃ y, 0 < k ∧ LC[k - 1]? = some y ∧ x.room ≤ y.room), ∃ b, Ending.returned (.bool false) = .returned (.bool b) ∧ (b = true ↔ Rise okRec RecM.out LA ∧ Rise okQuest QuestM.id LB ∧ Rise okShop ShopM.room LC ∧ LA.length ≤ 60 ∧ LB.length ≤ 60 ∧ LC.length ≤ 60) ∧ Keep (fun _ => False) w w9) := Lib.hid (fun w9 k9 h => ⟨false, rfl, ⟨fun (h0 : false = true) => (by cases h0), fun h0 => absurd h0.2.2.1 (RiseTo.fail HX.out h)⟩, (HK1.out.trans k9 (fun _ h => h.elim))⟩)
                cases b0 : inB x.room 1 1000 with
                | false =>
                  have C0 : Hid (∀ nn, Calls Tryz.prog 84 #[.int .i64 x.room, .int .i64 1, .int .i64 1000] (W1.drewN nn) fun e w' => e = .returned (.bool false) ∧ w' = W1.drewN nn) := Lib.hid (fun nn => (refIn_any x.room 1 1000).mono fun _ _ h => ⟨by rw [h.1, b0], h.2.symm⟩)
                  have HF : Hid (okShop x = false) := Lib.hid (by unfold okShop; rw [b0]; simp)
                  clear b0
                  go_wp2
                  go_quiet (first | (go_at_call 84; with_reducible refine Calls.quiet_of_same (C0.out _)))
                  go_wp2
                  go_ret
                  exact HBAD.out _ (kdrewB _ _) (.inl HF.out)
                | true =>
                  cases b1 : inB x.till 0 1073741824 with
                  | false =>
                    have C0 : Hid (∀ nn, Calls Tryz.prog 84 #[.int .i64 x.room, .int .i64 1, .int .i64 1000] (W1.drewN nn) fun e w' => e = .returned (.bool true) ∧ w' = W1.drewN nn) := Lib.hid (fun nn => (refIn_any x.room 1 1000).mono fun _ _ h => ⟨by rw [h.1, b0], h.2.symm⟩)
                    have C1 : Hid (∀ nn, Calls Tryz.prog 84 #[.int .i64 x.till, .int .i64 0, .int .i64 1073741824] (W1.drewN nn) fun e w' => e = .returned (.bool false) ∧ w' = W1.drewN nn) := Lib.hid (fun nn => (refIn_any x.till 0 1073741824).mono fun _ _ h => ⟨by rw [h.1, b1], h.2.symm⟩)
                    have HF : Hid (okShop x = false) := Lib.hid (by unfold okShop; rw [b0, b1]; simp)
                    clear b0 b1
                    go_wp2
                    go_quiet (first | (go_at_call 84; with_reducible refine Calls.quiet_of_same (C0.out _)) | (go_at_call 84; with_reducible refine Calls.quiet_of_same (C1.out _)))
                    go_wp2
                    go_ret
                    exact HBAD.out _ (kdrewB _ _) (.inl HF.out)
                  | true =>
                    by_cases hb2 : 8 < x.items.length
                    · have hd2 : decide (8 < (x.items.length : Int)) = true := by rw [decide_eq_true_eq]; omega
                      have C0 : Hid (∀ nn, Calls Tryz.prog 84 #[.int .i64 x.room, .int .i64 1, .int .i64 1000] (W1.drewN nn) fun e w' => e = .returned (.bool true) ∧ w' = W1.drewN nn) := Lib.hid (fun nn => (refIn_any x.room 1 1000).mono fun _ _ h => ⟨by rw [h.1, b0], h.2.symm⟩)
                      have C1 : Hid (∀ nn, Calls Tryz.prog 84 #[.int .i64 x.till, .int .i64 0, .int .i64 1073741824] (W1.drewN nn) fun e w' => e = .returned (.bool true) ∧ w' = W1.drewN nn) := Lib.hid (fun nn => (refIn_any x.till 0 1073741824).mono fun _ _ h => ⟨by rw [h.1, b1], h.2.symm⟩)
                      have HF : Hid (okShop x = false) := Lib.hid (by unfold okShop; rw [decide_eq_false (p := x.items.length ≤ 8) (by omega)]; simp)
                      clear b0 b1
                      go_wp2
                      go_quiet (first | (go_at_call 84; with_reducible refine Calls.quiet_of_same (C0.out _)) | (go_at_call 84; with_reducible refine Calls.quiet_of_same (C1.out _)))
                      go_wp2
                      go_ret
                      exact HBAD.out _ (kdrewB _ _) (.inl HF.out)
                    have hd2 : decide (8 < (x.items.length : Int)) = false := by rw [decide_eq_false_iff_not]; omega
                    have C0 : Hid (∀ nn, Calls Tryz.prog 84 #[.int .i64 x.room, .int .i64 1, .int .i64 1000] (W1.drewN nn) fun e w' => e = .returned (.bool true) ∧ w' = W1.drewN nn) := Lib.hid (fun nn => (refIn_any x.room 1 1000).mono fun _ _ h => ⟨by rw [h.1, b0], h.2.symm⟩)
                    have C1 : Hid (∀ nn, Calls Tryz.prog 84 #[.int .i64 x.till, .int .i64 0, .int .i64 1073741824] (W1.drewN nn) fun e w' => e = .returned (.bool true) ∧ w' = W1.drewN nn) := Lib.hid (fun nn => (refIn_any x.till 0 1073741824).mono fun _ _ h => ⟨by rw [h.1, b1], h.2.symm⟩)
                    have HBS : Hid (inB x.room 1 1000 = true ∧ inB x.till 0 1073741824 = true) := Lib.hid ⟨b0, b1⟩
                    clear b0 b1
                    by_cases hk0 : k = 0
                    · have dk : decide (0 < (k : Int)) = false := by rw [decide_eq_false_iff_not]; omega
                      have dk2 : decide (0 < k) = false := by rw [decide_eq_false_iff_not]; omega
                      have HOR : Hid (∀ y, 0 < k → LC[k - 1]? = some y → y.room < x.room) := Lib.hid (fun y h => by omega)
                      clear hk0
                      go_wp2
                      go_quiet (first | (go_at_call 84; with_reducible refine Calls.quiet_of_same (C0.out _)) | (go_at_call 84; with_reducible refine Calls.quiet_of_same (C1.out _)))
                      have HB2 : Hid ((W1.drewN nq).heap[B]? = some (.cells (shopC (x, .slice xa x.items.length xc)).toArray 88 (0, 0))) := Lib.hid HB.out
                      have HK2 : Hid (Keep (fun _ => False) W1 (W1.drewN nq)) := Lib.hid (kdrewB _ _)
                      generalize W1.drewN nq = W2 at HB2 HK2 ⊢
                      clear c0 c1 c2 p3
                      go_wp2
                      go_loopw [10] (fun jv wq => NdR true x.items W2 jv wq) (fun jv _ => x.items.length - (intOf jv).toNat)
                      case atStart => exact ⟨0, by omega, rfl, fun i n hi => by omega, Keep.refl _ _⟩
                      case round =>
                        obtain ⟨j, hj, rfl, hfr, hKj⟩ := hrel.ex
                        have HFR := Lib.hid hfr; have HKJ := Lib.hid hKj
                        clear hfr hKj hrel
                        have hblt : B < W2.heap.size := lt_of_block HB2.out
                        have cs : wr.cell? ⟨B, 2, none⟩ = some (.slice xa x.items.length xc) := (HKJ.out.cell hblt (fun h => h) _).trans ((cell_of_row W2 B 2 _ _ _ HB2.out).trans rfl)
                        have HKW : Hid (Keep (fun _ => False) W1 wr) := Lib.hid (HK2.out.trans HKJ.out (fun _ h => h.elim))
                        by_cases hjl : j < x.items.length
                        · have dj : decide (j < x.items.length) = true := by simpa using hjl
                          obtain ⟨n, hn⟩ : ∃ n, x.items[j]? = some n := ⟨_, List.getElem?_eq_getElem hjl⟩
                          obtain ⟨_, ya, yc, hyv, _, _, hq⟩ := (HIN.out.keep (HK1.out.trans HKW.out (fun _ h => h.elim)) (fun _ _ _ h => h)).1
                          simp only [Value.slice.injEq] at hyv
                          obtain ⟨rfl, _, rfl⟩ := hyv
                          obtain ⟨xg, xo, rfl, _, hq⟩ := hq.resolve_left (by omega)
                          have cn : wr.cell? ⟨xg, xo + j, none⟩ = some (.int .i64 n) := hq j _ (icells_get hn)
                          have HQ := Lib.hid hq
                          have HNN := Lib.hid hn
                          clear hq hn
                          cases bn : inB n 1 1000 with
                          | false =>
                            have C0 : Hid (∀ nn, Calls Tryz.prog 84 #[.int .i64 n, .int .i64 1, .int .i64 1000] (wr.drewN nn) fun e w' => e = .returned (.bool false) ∧ w' = wr.drewN nn) := Lib.hid (fun nn => (refIn_any n 1 1000).mono fun _ _ h => ⟨by rw [h.1, bn], h.2.symm⟩)
                            have HF : Hid (okShop x = false) := Lib.hid (okShop_bad (NeedsTo.fail (st := true) HNN.out (.inl bn)))
                            clear bn
                            go_wp2
                            go_quiet (first | (go_at_call 84; with_reducible refine Calls.quiet_of_same (C0.out _)))
                            go_wp2
                            go_ret
                            exact HBAD.out _ (HKW.out.trans (kdrewB _ _) (fun _ h => h.elim)) (.inl HF.out)
                          | true =>
                            have C0 : Hid (∀ nn, Calls Tryz.prog 84 #[.int .i64 n, .int .i64 1, .int .i64 1000] (wr.drewN nn) fun e w' => e = .returned (.bool true) ∧ w' = wr.drewN nn) := Lib.hid (fun nn => (refIn_any n 1 1000).mono fun _ _ h => ⟨by rw [h.1, bn], h.2.symm⟩)
                            have HBN := Lib.hid bn
                            clear bn
                            by_cases hj0 : j = 0
                            · have dk9 : decide (0 < (j : Int)) = false := by rw [decide_eq_false_iff_not]; omega
                              have dk8 : decide (0 < j) = false := by rw [decide_eq_false_iff_not]; omega
                              have HN2 : Hid (NeedsTo true x.items (j + 1)) := Lib.hid (HFR.out.next HNN.out HBN.out (fun m h => by omega))
                              clear hj0
                              go_wp2
                              go_quiet (first | (go_at_call 84; with_reducible refine Calls.quiet_of_same (C0.out _)))
                              go_wp2
                              go_roundw
                              case rel => exact ⟨j + 1, by omega, by go_num, HN2.out, HKJ.out.trans (kdrewB _ _) (fun _ h => h.elim)⟩
                              case measure => simp [intOf]; omega
                            · obtain ⟨i, hi⟩ : ∃ i, j = i + 1 := ⟨j - 1, by omega⟩
                              obtain ⟨m, hm⟩ : ∃ m, x.items[i]? = some m := ⟨_, List.getElem?_eq_getElem (by omega)⟩
                              have cm : wr.cell? ⟨xg, xo + i, none⟩ = some (.int .i64 m) := HQ.out i _ (icells_get hm)
                              have dk9 : decide (0 < (j : Int)) = true := by rw [decide_eq_true_eq]; omega
                              have dk8 : decide (0 < j) = true := by rw [decide_eq_true_eq]; omega
                              have ei : (j : Int) - 1 = (i : Int) := by omega
                              have hil : i < x.items.length := by omega
                              have HI9 := Lib.hid hi
                              have HM9 := Lib.hid hm
                              clear hi hm hj0
                              by_cases hle : n ≤ m
                              · have dle : decide (n ≤ m) = true := by rw [decide_eq_true_eq]; exact hle
                                have HF : Hid (okShop x = false) := Lib.hid (okShop_bad (NeedsTo.fail (st := true) HNN.out (.inr ⟨m, by have := HI9.out; omega, by rw [show j - 1 = i by have := HI9.out; omega]; exact HM9.out, by simpa using hle⟩)))
                                clear hle
                                go_wp2
                                go_quiet (first | (go_at_call 84; with_reducible refine Calls.quiet_of_same (C0.out _)))
                                go_wp2
                                go_ret
                                exact HBAD.out _ (HKW.out.trans (kdrewB _ _) (fun _ h => h.elim)) (.inl HF.out)
                              · have dle : decide (n ≤ m) = false := by rw [decide_eq_false_iff_not]; exact hle
                                have HN2 : Hid (NeedsTo true x.items (j + 1)) := Lib.hid (HFR.out.next HNN.out HBN.out (fun z _ hz => by rw [show j - 1 = i by have := HI9.out; omega, HM9.out] at hz; cases hz; simp; omega))
                                clear hle
                                go_wp2
                                go_quiet (first | (go_at_call 84; with_reducible refine Calls.quiet_of_same (C0.out _)))
                                go_wp2
                                go_roundw
                                case rel => exact ⟨j + 1, by omega, by go_num, HN2.out, HKJ.out.trans (kdrewB _ _) (fun _ h => h.elim)⟩
                                case measure => simp [intOf]; omega
                        · have dj : decide (j < x.items.length) = false := by rw [decide_eq_false_iff_not]; omega
                          have HNX2 : Hid (RiseTo okShop ShopM.room LC (k + 1)) := Lib.hid (HA.out.next HX.out (okShop_good HBS.out (by omega)  (NeedsTo.all (st := true) (by have := HFR.out; rwa [show j = x.items.length by omega] at this))) HOR.out)
                          go_wp2
                          go_roundw
                          case rel => exact ⟨k + 1, by omega, by go_num, HNX2.out, HK1.out.trans HKW.out (fun _ h => h.elim)⟩
                          case measure => simp [intOf]; omega
                    · obtain ⟨m, hm⟩ : ∃ m, k = m + 1 := ⟨k - 1, by omega⟩
                      obtain ⟨y, hy, hyc⟩ := HPRE.out m hm
                      have z0 := hyc W1 HK1.out
                      have dk : decide (0 < (k : Int)) = true := by rw [decide_eq_true_eq]; omega
                      have dk2 : decide (0 < k) = true := by rw [decide_eq_true_eq]; omega
                      have e1 : (k : Int) - 1 = (m : Int) := by omega
                      have hml : m < LC.length := by omega
                      have HM := Lib.hid hm
                      have HY := Lib.hid hy
                      clear hm hy hyc hk0
                      by_cases hle : x.room ≤ y.room
                      · have dle : decide (x.room ≤ y.room) = true := by rw [decide_eq_true_eq]; exact hle
                        have HLE := Lib.hid hle
                        clear hle
                        go_wp2
                        go_quiet (first | (go_at_call 84; with_reducible refine Calls.quiet_of_same (C0.out _)) | (go_at_call 84; with_reducible refine Calls.quiet_of_same (C1.out _)))
                        go_wp2
                        go_ret
                        exact HBAD.out _ (kdrewB _ _) (.inr ⟨y, by have := HM.out; omega, by rw [show k - 1 = m by have := HM.out; omega]; exact HY.out, HLE.out⟩)
                      · have dle : decide (x.room ≤ y.room) = false := by rw [decide_eq_false_iff_not]; exact hle
                        have HOR : Hid (∀ y, 0 < k → LC[k - 1]? = some y → y.room < x.room) := Lib.hid (fun z _ hz => by rw [show k - 1 = m by have := HM.out; omega, HY.out] at hz; cases hz; omega)
                        clear hle
                        go_wp2
                        go_quiet (first | (go_at_call 84; with_reducible refine Calls.quiet_of_same (C0.out _)) | (go_at_call 84; with_reducible refine Calls.quiet_of_same (C1.out _)))
                        have HB2 : Hid ((W1.drewN nq).heap[B]? = some (.cells (shopC (x, .slice xa x.items.length xc)).toArray 88 (0, 0))) := Lib.hid HB.out
                        have HK2 : Hid (Keep (fun _ => False) W1 (W1.drewN nq)) := Lib.hid (kdrewB _ _)
                        generalize W1.drewN nq = W2 at HB2 HK2 ⊢
                        clear c0 c1 c2 p3
                        go_wp2
                        go_loopw [10] (fun jv wq => NdR true x.items W2 jv wq) (fun jv _ => x.items.length - (intOf jv).toNat)
                        case atStart => exact ⟨0, by omega, rfl, fun i n hi => by omega, Keep.refl _ _⟩
                        case round =>
                          obtain ⟨j, hj, rfl, hfr, hKj⟩ := hrel.ex
                          have HFR := Lib.hid hfr; have HKJ := Lib.hid hKj
                          clear hfr hKj hrel
                          have hblt : B < W2.heap.size := lt_of_block HB2.out
                          have cs : wr.cell? ⟨B, 2, none⟩ = some (.slice xa x.items.length xc) := (HKJ.out.cell hblt (fun h => h) _).trans ((cell_of_row W2 B 2 _ _ _ HB2.out).trans rfl)
                          have HKW : Hid (Keep (fun _ => False) W1 wr) := Lib.hid (HK2.out.trans HKJ.out (fun _ h => h.elim))
                          by_cases hjl : j < x.items.length
                          · have dj : decide (j < x.items.length) = true := by simpa using hjl
                            obtain ⟨n, hn⟩ : ∃ n, x.items[j]? = some n := ⟨_, List.getElem?_eq_getElem hjl⟩
                            obtain ⟨_, ya, yc, hyv, _, _, hq⟩ := (HIN.out.keep (HK1.out.trans HKW.out (fun _ h => h.elim)) (fun _ _ _ h => h)).1
                            simp only [Value.slice.injEq] at hyv
                            obtain ⟨rfl, _, rfl⟩ := hyv
                            obtain ⟨xg, xo, rfl, _, hq⟩ := hq.resolve_left (by omega)
                            have cn : wr.cell? ⟨xg, xo + j, none⟩ = some (.int .i64 n) := hq j _ (icells_get hn)
                            have HQ := Lib.hid hq
                            have HNN := Lib.hid hn
                            clear hq hn
                            cases bn : inB n 1 1000 with
                            | false =>
                              have C0 : Hid (∀ nn, Calls Tryz.prog 84 #[.int .i64 n, .int .i64 1, .int .i64 1000] (wr.drewN nn) fun e w' => e = .returned (.bool false) ∧ w' = wr.drewN nn) := Lib.hid (fun nn => (refIn_any n 1 1000).mono fun _ _ h => ⟨by rw [h.1, bn], h.2.symm⟩)
                              have HF : Hid (okShop x = false) := Lib.hid (okShop_bad (NeedsTo.fail (st := true) HNN.out (.inl bn)))
                              clear bn
                              go_wp2
                              go_quiet (first | (go_at_call 84; with_reducible refine Calls.quiet_of_same (C0.out _)))
                              go_wp2
                              go_ret
                              exact HBAD.out _ (HKW.out.trans (kdrewB _ _) (fun _ h => h.elim)) (.inl HF.out)
                            | true =>
                              have C0 : Hid (∀ nn, Calls Tryz.prog 84 #[.int .i64 n, .int .i64 1, .int .i64 1000] (wr.drewN nn) fun e w' => e = .returned (.bool true) ∧ w' = wr.drewN nn) := Lib.hid (fun nn => (refIn_any n 1 1000).mono fun _ _ h => ⟨by rw [h.1, bn], h.2.symm⟩)
                              have HBN := Lib.hid bn
                              clear bn
                              by_cases hj0 : j = 0
                              · have dk9 : decide (0 < (j : Int)) = false := by rw [decide_eq_false_iff_not]; omega
                                have dk8 : decide (0 < j) = false := by rw [decide_eq_false_iff_not]; omega
                                have HN2 : Hid (NeedsTo true x.items (j + 1)) := Lib.hid (HFR.out.next HNN.out HBN.out (fun m h => by omega))
                                clear hj0
                                go_wp2
                                go_quiet (first | (go_at_call 84; with_reducible refine Calls.quiet_of_same (C0.out _)))
                                go_wp2
                                go_roundw
                                case rel => exact ⟨j + 1, by omega, by go_num, HN2.out, HKJ.out.trans (kdrewB _ _) (fun _ h => h.elim)⟩
                                case measure => simp [intOf]; omega
                              · obtain ⟨i, hi⟩ : ∃ i, j = i + 1 := ⟨j - 1, by omega⟩
                                obtain ⟨m, hm⟩ : ∃ m, x.items[i]? = some m := ⟨_, List.getElem?_eq_getElem (by omega)⟩
                                have cm : wr.cell? ⟨xg, xo + i, none⟩ = some (.int .i64 m) := HQ.out i _ (icells_get hm)
                                have dk9 : decide (0 < (j : Int)) = true := by rw [decide_eq_true_eq]; omega
                                have dk8 : decide (0 < j) = true := by rw [decide_eq_true_eq]; omega
                                have ei : (j : Int) - 1 = (i : Int) := by omega
                                have hil : i < x.items.length := by omega
                                have HI9 := Lib.hid hi
                                have HM9 := Lib.hid hm
                                clear hi hm hj0
                                by_cases hle : n ≤ m
                                · have dle : decide (n ≤ m) = true := by rw [decide_eq_true_eq]; exact hle
                                  have HF : Hid (okShop x = false) := Lib.hid (okShop_bad (NeedsTo.fail (st := true) HNN.out (.inr ⟨m, by have := HI9.out; omega, by rw [show j - 1 = i by have := HI9.out; omega]; exact HM9.out, by simpa using hle⟩)))
                                  clear hle
                                  go_wp2
                                  go_quiet (first | (go_at_call 84; with_reducible refine Calls.quiet_of_same (C0.out _)))
                                  go_wp2
                                  go_ret
                                  exact HBAD.out _ (HKW.out.trans (kdrewB _ _) (fun _ h => h.elim)) (.inl HF.out)
                                · have dle : decide (n ≤ m) = false := by rw [decide_eq_false_iff_not]; exact hle
                                  have HN2 : Hid (NeedsTo true x.items (j + 1)) := Lib.hid (HFR.out.next HNN.out HBN.out (fun z _ hz => by rw [show j - 1 = i by have := HI9.out; omega, HM9.out] at hz; cases hz; simp; omega))
                                  clear hle
                                  go_wp2
                                  go_quiet (first | (go_at_call 84; with_reducible refine Calls.quiet_of_same (C0.out _)))
                                  go_wp2
                                  go_roundw
                                  case rel => exact ⟨j + 1, by omega, by go_num, HN2.out, HKJ.out.trans (kdrewB _ _) (fun _ h => h.elim)⟩
                                  case measure => simp [intOf]; omega
                          · have dj : decide (j < x.items.length) = false := by rw [decide_eq_false_iff_not]; omega
                            have HNX2 : Hid (RiseTo okShop ShopM.room LC (k + 1)) := Lib.hid (HA.out.next HX.out (okShop_good HBS.out (by omega)  (NeedsTo.all (st := true) (by have := HFR.out; rwa [show j = x.items.length by omega] at this))) HOR.out)
                            go_wp2
                            go_roundw
                            case rel => exact ⟨k + 1, by omega, by go_num, HNX2.out, HK1.out.trans HKW.out (fun _ h => h.elim)⟩
                            case measure => simp [intOf]; omega
            · have hd1 : decide (k < LC.length) = false := by rw [decide_eq_false_iff_not]; omega
              have HRC : Hid (Rise okShop ShopM.room LC) := Lib.hid (RiseTo.all.2 (by have := HA.out; rwa [show k = LC.length by omega] at this))
              have HKP := HK
              clear HA hlt hk
              have pa := HPrecs.out wr HK.out
              have pb := HPquests.out wr HK.out
              by_cases h60A : LA.length ≤ 60
              · have d60A : decide ((LA.length : Int) ≤ 60) = true := by rw [decide_eq_true_eq]; omega
                have d61A : decide (LA.length ≤ 60) = true := by rw [decide_eq_true_eq]; omega
                by_cases h60B : LB.length ≤ 60
                · have d60B : decide ((LB.length : Int) ≤ 60) = true := by rw [decide_eq_true_eq]; omega
                  have d61B : decide (LB.length ≤ 60) = true := by rw [decide_eq_true_eq]; omega
                  by_cases h60C : LC.length ≤ 60
                  · have d60C : decide ((LC.length : Int) ≤ 60) = true := by rw [decide_eq_true_eq]; omega
                    have d61C : decide (LC.length ≤ 60) = true := by rw [decide_eq_true_eq]; omega
                    go_wp2
                    go_ret
                    exact ⟨true, rfl, ⟨fun _ => ⟨HRA.out, HRB.out, HRC.out, h60A, h60B, h60C⟩, fun _ => rfl⟩, HK.out⟩
                  · have d60C : decide ((LC.length : Int) ≤ 60) = false := by rw [decide_eq_false_iff_not]; omega
                    have d61C : decide (LC.length ≤ 60) = false := by rw [decide_eq_false_iff_not]; omega
                    go_wp2
                    go_ret
                    exact ⟨false, rfl, ⟨fun (h0 : false = true) => (by cases h0), fun h0 => absurd h0.2.2.2.2.2 h60C⟩, HK.out⟩
                · have d60B : decide ((LB.length : Int) ≤ 60) = false := by rw [decide_eq_false_iff_not]; omega
                  have d61B : decide (LB.length ≤ 60) = false := by rw [decide_eq_false_iff_not]; omega
                  go_wp2
                  go_ret
                  exact ⟨false, rfl, ⟨fun (h0 : false = true) => (by cases h0), fun h0 => absurd h0.2.2.2.2.1 h60B⟩, HK.out⟩
              · have d60A : decide ((LA.length : Int) ≤ 60) = false := by rw [decide_eq_false_iff_not]; omega
                have d61A : decide (LA.length ≤ 60) = false := by rw [decide_eq_false_iff_not]; omega
                go_wp2
                go_ret
                exact ⟨false, rfl, ⟨fun (h0 : false = true) => (by cases h0), fun h0 => absurd h0.2.2.2.1 h60A⟩, HK.out⟩
end Go.Proofs.YtcodbomgodkcmaaGreatDoor.Wd
