/- codec: a world that is cut. -/
import Derived.Test.YtpefkellcigpkaaCdW6
import Derived.Test.YtpefkellcigpkaaCdByt
import Derived.Test.YtpefkellcigpkaaCdZ
import Derived.Deep.CutBlock
import Derived.Deep.CutRange
import Derived.Deep.RegionWith
namespace Go.Proofs.Ytpefkellcigpkaa.Cd
open Go.RowKit Go.Deep Go.Proofs.Ytpefkellcigpkaa
set_option maxRecDepth 100000

/-- Behind the cut of the characters' list. -/
def CtA (r : Rng) (w : World) (a b c : Int) (v2 v3 v4 v5 v6 : Value) (things : List MThing) (mobs : List MMob) (houses : List MHouse) (lots : List MLot) (tills : List MTill) (wx : World) : Prop :=
  ∃ (v1 : Value) (chars : List MChar), W6 r w wx a b c v1 v2 v3 v4 v5 v6 chars things mobs houses lots tills ∧ chars.length ≤ 6 ∧ ∀ d ∈ chars, rChar d

set_option maxHeartbeats 8000000 in
theorem cutW_any {w : World} {x : MWorld} {cs : List Value} (hx : eWorld.H (fun b => b < w.heap.size) w x cs) (hw : wWorld x) : Calls Try.prog 7 #[.agg cs.toArray] w (CutA w) := by
  have hnew := heap_alloc_new w (.cells cs.toArray 29)
  have hsz : (w.alloc (.cells cs.toArray 29)).heap.size = w.heap.size + 1 := World.size_alloc ..
  obtain ⟨v1, v2, v3, v4, v5, v6, l1, l2, l3, l4, l5, l6, rfl⟩ := hx
  have k0 : Keep (fun _ => False) w (w.alloc (.cells (wcells x.1 x.2.1 x.2.2.1 v1 v2 v3 v4 v5 v6) 29)) := (Keep.refl _ w).alloc _
  have hL : ∀ (b : Nat), b < w.heap.size → b < (w.alloc (.cells (wcells x.1 x.2.1 x.2.2.1 v1 v2 v3 v4 v5 v6) 29)).heap.size := fun b hb => by have := k0.size; omega
  have HCOPY := Lib.hid (copy_any (w := w.alloc (.cells (wcells x.1 x.2.1 x.2.2.1 v1 v2 v3 v4 v5 v6) 29)) (g := w.heap.size) (off := 0) (x := x) (lt_of_block hnew) (rangeAt_block2 hnew rfl)
    ((l1.keep k0 (fun _ _ _ h => h)).mono (fun b _ hb => hL b hb)) ((l2.keep k0 (fun _ _ _ h => h)).mono (fun b _ hb => hL b hb)) ((l3.keep k0 (fun _ _ _ h => h)).mono (fun b _ hb => hL b hb)) ((l4.keep k0 (fun _ _ _ h => h)).mono (fun b _ hb => hL b hb))
    ((l5.keep k0 (fun _ _ _ h => h)).mono (fun b _ hb => hL b hb)) ((l6.keep k0 (fun _ _ _ h => h)).mono (fun b _ hb => hL b hb)) hw)
  have HW := Lib.hid hw
  have HK0 := Lib.hid k0
  clear hw k0 hL l1 l2 l3 l4 l5 l6 hnew hsz
  obtain ⟨now, next, minted, chars0, things0, mobs0, houses0, lots0, tills0⟩ := x
  go_enter Try.func7, Try.ntmps7
  go_wp2_with fail
  refine HCOPY.out.mono ?_
  rintro e w1 ⟨g, rfl, hat, hk1⟩
  clear HCOPY
  obtain ⟨r, v1, v2, v3, v4, v5, v6, rfl, h6⟩ := hat.six (w0 := w) HK0.out.size (HK0.out.trans hk1 (fun _ h => h.elim))
  simp only at h6
  clear hat hk1 HK0
  obtain ⟨a1, d1, rfl, hle1, hmx1⟩ := h6.m1.slice
  unfold maxLen at hmx1
  have p3 := (h6.cell 3 _ rfl).1
  have f3 := (h6.cell 3 _ rfl).2
  have H6 := Lib.hid h6
  clear h6
  obtain ⟨n1, hn1⟩ : ∃ n, n = chars0.length := ⟨_, rfl⟩
  have HN1 := Lib.hid hn1
  rw [← hn1] at H6 hle1 p3
  clear hn1
  go_upto_if 17 with fail
  go_cut [] from 18 to 25 (fun wx => CtA r w now next minted v2 v3 v4 v5 v6 things0 mobs0 houses0 lots0 tills0 wx)
  case first =>
    by_cases h : 6 < n1
    · have hi : 6 < (n1 : Int) := by omega
      go_wp2_with fail
      go_meet
      case rel => exact ⟨_, _, H6.out.cut3 6 (by have := HN1.out; omega), by simp only [List.length_take]; omega, fun d hd => (HW.out.chars.1 d (List.mem_of_mem_take hd)).1⟩
    · have hi : (n1 : Int) ≤ 6 := by omega
      go_wp2_with fail
      go_meet
      case rel => exact ⟨_, _, H6.out, by have := HN1.out; omega, fun d hd => (HW.out.chars.1 d hd).1⟩
  case rest =>
    clear H6 HN1 p3 f3 hle1 hmx1
    obtain ⟨v1, chars, h6, hl6, hr6⟩ := hcut
    obtain ⟨a1, d1, rfl, hle1, hmx1⟩ := h6.m1.slice
    unfold maxLen at hmx1
    obtain ⟨n1, hn1⟩ : ∃ n, n = chars.length := ⟨_, rfl⟩
    rw [← hn1] at h6 hle1 hl6
    have HN1 := Lib.hid hn1
    have H6 := Lib.hid h6
    have HR1 := Lib.hid hr6
    clear hn1 h6 hr6
    have HCA := Lib.hid (fun (s : ByteArray) (w : World) => cut_any s 30 (by omega) (w := w))
    have HCB := Lib.hid (fun (s : ByteArray) (w : World) => cut_any s 70 (by omega) (w := w))
    rw [show ((30 : Nat) : Int) = 30 from rfl] at HCA
    rw [show ((70 : Nat) : Int) = 70 from rfl] at HCB
    go_wp2_with fail
    go_loopw [4] (fun i wr => CtL eChar 58 r.c1 r.c2 rChar sChar wc (.slice a1 n1 d1) n1 i wr) (fun i _ => n1 - (intOf i).toNat)
    case atStart => exact ⟨0, chars, by omega, rfl, HN1.out.symm, H6.out.m1, HR1.out, fun _ _ _ h => by omega, Keep.refl _ _⟩
    case round =>
      obtain ⟨k, lC, hk, rfl, hll, hm, hP, hS, hK⟩ := hrel.ex
      clear hrel
      have H6R := Lib.hid (H6.out.turn3 hK hm)
      have p3 := (H6R.out.cell 3 _ rfl).1
      have HM := Lib.hid hm
      have HL := Lib.hid (And.intro hll (And.intro hP (And.intro hS hK)))
      clear hll hP hS hK hm
      by_cases hlt : k < n1
      · have hlt1 : (k : Int) < (n1 : Int) := by omega
        obtain ⟨g1, o1, rfl⟩ := HM.out.get k (by have := HL.out.1; omega)
        obtain ⟨x, hx⟩ : ∃ x, lC[k]? = some x := ⟨_, List.getElem?_eq_getElem (by have := HL.out.1; omega)⟩
        have HX := Lib.hid hx
        obtain ⟨cs, hH, hcl, hcell, hfz, hg1, hg2⟩ := HM.out.cells k x hx
        obtain ⟨s0, s1, b2, y3, y4, y5, y6, y7, y8, dn⟩ := x
        obtain ⟨dv, hD, rfl⟩ := hH
        have HG := Lib.hid (And.intro hg1 hg2)
        have q0 : wr.cell? ⟨g1, o1 + k * 10, none⟩ = some (.string s0) := by have := hcell 0 _ rfl; simpa [eChar] using this
        have q1 : wr.cell? ⟨g1, o1 + k * 10 + 1, none⟩ = some (.string s1) := by have := hcell 1 _ rfl; simpa [eChar] using this
        have z0 : wr.frozen? ⟨g1, o1 + k * 10, none⟩ = false := by have := hfz 0 (by decide); simpa [eChar] using this
        have z1 : wr.frozen? ⟨g1, o1 + k * 10 + 1, none⟩ = false := by have := hfz 1 (by decide); simpa [eChar] using this
        clear hD hcl hcell hfz hx hg1 hg2
        go_upto_region 8 with fail
        go_cut [] from 26 to 70 (fun wx => ∃ t0 t1 : ByteArray, t0.size ≤ 30 ∧ t1.size ≤ 70 ∧ wx = ((wr.setCell ⟨g1, o1 + k * 10, none⟩ (.string t0)).setCell ⟨g1, o1 + k * 10 + 1, none⟩ (.string t1)).drew)
        case first => --R
          go_region_with (first
            | (go_at_call 20; (with_reducible refine (HCA.out _ _).mono ?_); rintro e w9 ⟨t0, rfl, ht0, rfl⟩; have HT0 := Lib.hid ht0; clear ht0)
            | (go_at_call 20; (with_reducible refine (HCB.out _ _).mono ?_); rintro e w9 ⟨t1, rfl, ht1, rfl⟩; have HT1 := Lib.hid ht1; clear ht1))
          all_goals
            go_wp2_with fail
            go_meet
            case rel => exact ⟨t0, t1, HT0.out, HT1.out, rfl⟩
        case rest =>
          obtain ⟨t0, t1, ht0, ht1, rfl⟩ := hcut
          have HT := Lib.hid (And.intro ht0 ht1)
          have hkl : k < lC.length := by have := HL.out.1; omega
          have hgx : ∀ z : MChar, (lC.set k z)[k]? = some z := fun z => by rw [List.getElem?_set, if_pos rfl, if_pos hkl]
          have m3 := (HM.out.set1 k (s0, s1, b2, y3, y4, y5, y6, y7, y8, dn) (t0, s1, b2, y3, y4, y5, y6, y7, y8, dn) HX.out 0 (by decide) (.string t0) (fun Pb cs h _ => by
            obtain ⟨dv, h1, rfl⟩ := h; exact ⟨dv, h1, rfl⟩)).set1 k (t0, s1, b2, y3, y4, y5, y6, y7, y8, dn) (t0, t1, b2, y3, y4, y5, y6, y7, y8, dn) (hgx _) 1 (by decide) (.string t1) (fun Pb cs h _ => by
            obtain ⟨dv, h1, rfl⟩ := h; exact ⟨dv, h1, rfl⟩)
          have m4 := m3.keep ((Keep.refl (fun _ => False) _).drew) (fun _ _ _ h => h)
          rw [List.set_set] at m4
          have M5 : Hid (Mine eChar 58 r.c1 r.c2 ((wr.setCell ⟨g1, o1 + k * 10, none⟩ (.string t0)).setCell ⟨g1, o1 + k * 10 + 1, none⟩ (.string t1)).drew (.slice (some ⟨g1, o1, none⟩) n1 d1) (lC.set k (t0, t1, b2, y3, y4, y5, y6, y7, y8, dn))) := Lib.hid m4
          have K5 : Hid (Keep (fun g => r.c1 ≤ g ∧ g < r.c2) wr ((wr.setCell ⟨g1, o1 + k * 10, none⟩ (.string t0)).setCell ⟨g1, o1 + k * 10 + 1, none⟩ (.string t1)).drew) := Lib.hid ((((Keep.refl _ wr).setCell _ _ (.inl HG.out)).setCell _ _ (.inl HG.out)).drew)
          clear m3 m4 ht0 ht1 q0 q1 z0 z1 p3
          generalize ((wr.setCell ⟨g1, o1 + k * 10, none⟩ (.string t0)).setCell ⟨g1, o1 + k * 10 + 1, none⟩ (.string t1)).drew = w5 at *
          obtain ⟨cs5, hH5, _, hcell5, hfz5, _, _⟩ := M5.out.cells k _ (hgx _)
          obtain ⟨dv5, hD5, rfl⟩ := hH5
          have hcap : ∃ ad cd, dv5 = .slice ad dn.length cd ∧ dn.length ≤ cd ∧ cd ≤ maxLen := by
            obtain ⟨a, c, hv, e1, e2, _⟩ := hD5
            exact ⟨a, c, hv, e1, e2⟩
          obtain ⟨ad, cd, rfl, hcd, hcm⟩ := hcap
          unfold maxLen at hcm
          have q9 : w5.cell? ⟨g1, o1 + k * 10 + 9, none⟩ = some (.slice ad dn.length cd) := by have := hcell5 9 _ rfl; simpa [eChar] using this
          have z9 : w5.frozen? ⟨g1, o1 + k * 10 + 9, none⟩ = false := by have := hfz5 9 (by decide); simpa [eChar] using this
          obtain ⟨nd, hnd⟩ : ∃ n, n = dn.length := ⟨_, rfl⟩
          have HND := Lib.hid hnd
          have Q9 := Lib.hid q9
          rw [← hnd] at q9 hcd
          have HKN := Lib.hid hkl
          have HGX := Lib.hid hgx
          clear hD5 hcell5 hfz5 hnd hkl hgx
          have RX : Hid (rChar (s0, s1, b2, y3, y4, y5, y6, y7, y8, dn)) := Lib.hid (HL.out.2.1 _ (List.mem_of_getElem? HX.out))
          by_cases h8 : 8 < nd
          · have h8i : 8 < (nd : Int) := by omega
            have M6 : Hid (Mine eChar 58 r.c1 r.c2 (w5.setCell ⟨g1, o1 + k * 10 + 9, none⟩ (.slice ad 8 cd)) (.slice (some ⟨g1, o1, none⟩) n1 d1) (lC.set k (t0, t1, b2, y3, y4, y5, y6, y7, y8, dn.take 8))) := Lib.hid (by
              have h9 := M5.out.set1 k _ (t0, t1, b2, y3, y4, y5, y6, y7, y8, dn.take 8) (HGX.out _) 9 (by decide) (.slice ad 8 cd) (fun Pb cs h hc => by
                obtain ⟨dv, h1, rfl⟩ := h
                have e := hc 9 dv rfl
                have e2 : some dv = some (Value.slice ad dn.length cd) := e.symm.trans Q9.out
                obtain rfl := Option.some.inj e2
                exact ⟨_, h1.head 8 (show 8 ≤ dn.length by have := HND.out; omega), rfl⟩)
              rwa [List.set_set] at h9)
            have K6 : Hid (Keep (fun g => r.c1 ≤ g ∧ g < r.c2) wr (w5.setCell ⟨g1, o1 + k * 10 + 9, none⟩ (.slice ad 8 cd))) := Lib.hid (K5.out.setCell _ _ (.inl HG.out))
            go_wp2_with fail
            go_roundw
            case rel =>
              (repeat apply Exists.intro)
              exact CtL.step hlt HL.out.1 HL.out.2.1 HL.out.2.2.1 HL.out.2.2.2 _ M6.out K6.out (by obtain ⟨r1, r2, r3, r4, r5, r6, r7⟩ := RX.out; exact ⟨r1, r2, r3, r4, r5, r6, fun d hd => r7 d (List.mem_of_mem_take hd)⟩) ⟨HT.out.1, HT.out.2, by simp only [List.length_take]; omega⟩ rfl
            case measure => simp [intOf]; omega
          · have h8i : (nd : Int) ≤ 8 := by omega
            go_wp2_with fail
            go_roundw
            case rel =>
              (repeat apply Exists.intro)
              exact CtL.step hlt HL.out.1 HL.out.2.1 HL.out.2.2.1 HL.out.2.2.2 _ M5.out K5.out RX.out ⟨HT.out.1, HT.out.2, by have := HND.out; simp only; omega⟩ rfl
            case measure => simp [intOf]; omega
      · obtain rfl : k = n1 := by omega
        have HFC : Hid (lC.length ≤ 6 ∧ ∀ d ∈ lC, rChar d ∧ sChar d) := Lib.hid ⟨by have := HL.out.1; omega, fun d hd => ⟨HL.out.2.1 d hd, by
          obtain ⟨j, hj⟩ := List.mem_iff_getElem?.1 hd
          exact HL.out.2.2.1 j d hj (by have := (List.getElem?_eq_some_iff.1 hj).1; have := HL.out.1; omega)⟩⟩
        obtain ⟨vC, hvC⟩ : ∃ vC, vC = Value.slice a1 k d1 := ⟨_, rfl⟩
        have HS : Hid (W6 r w wr now next minted vC v2 v3 v4 v5 v6 lC things0 mobs0 houses0 lots0 tills0) := Lib.hid (by rw [hvC]; exact H6R.out)
        clear H6R HL HM H6 HN1 HR1 hvC
        have hs := HS.out
        obtain ⟨a2, d2, e2, hle2, hmx2⟩ := hs.m2.slice
        subst e2
        unfold maxLen at hmx2
        have p4 := (hs.cell 4 _ rfl).1
        have f4 := (hs.cell 4 _ rfl).2
        obtain ⟨n2, hn2⟩ : ∃ n, n = things0.length := ⟨_, rfl⟩
        rw [← hn2] at hle2 p4 hs
        have HN2 := Lib.hid hn2
        have HT2 := Lib.hid hs
        clear hn2 hs HS
        go_upto_if 76 with fail
        go_cut [] from 77 to 84 (fun wx => ∃ (v : Value) (l : List MThing), W6 r w wx now next minted vC v v3 v4 v5 v6 lC l mobs0 houses0 lots0 tills0 ∧ l.length ≤ 12 ∧ ∀ d ∈ l, rThing d)
        case first =>
          by_cases h : 12 < n2
          · have hi : 12 < (n2 : Int) := by omega
            go_wp2_with fail
            go_meet
            case rel => exact ⟨_, _, HT2.out.cut4 12 (by have := HN2.out; omega), by simp only [List.length_take]; omega, fun d hd => HW.out.things.1 d (List.mem_of_mem_take hd)⟩
          · have hi : (n2 : Int) ≤ 12 := by omega
            go_wp2_with fail
            go_meet
            case rel => exact ⟨_, _, HT2.out, by have := HN2.out; omega, fun d hd => HW.out.things.1 d hd⟩
        case rest =>
          clear HT2 HN2 p4 f4 hle2 hmx2
          obtain ⟨vT, lT0, h6, hl6, hr6⟩ := hcut
          obtain ⟨a2, d2, e2, hle2, hmx2⟩ := h6.m2.slice
          subst e2
          unfold maxLen at hmx2
          obtain ⟨n2, hn2⟩ : ∃ n, n = lT0.length := ⟨_, rfl⟩
          rw [← hn2] at h6 hle2 hl6
          have HN2 := Lib.hid hn2
          have H6 := Lib.hid h6
          have HR2 := Lib.hid hr6
          clear hn2 h6 hr6
          go_wp2_with fail
          go_loopw [6] (fun i wr => CtL eThing 61 r.c3 r.c4 rThing sThing wc (.slice a2 n2 d2) n2 i wr) (fun i _ => n2 - (intOf i).toNat)
          case atStart => exact ⟨0, lT0, by omega, rfl, HN2.out.symm, H6.out.m2, HR2.out, fun _ _ _ h => by omega, Keep.refl _ _⟩
          case round =>
            obtain ⟨k, lT, hk, rfl, hll, hm, hP, hS, hK⟩ := hrel.ex
            clear hrel
            have H6R := Lib.hid (H6.out.turn4 hK hm)
            have p4 := (H6R.out.cell 4 _ rfl).1
            have HM := Lib.hid hm
            have HL := Lib.hid (And.intro hll (And.intro hP (And.intro hS hK)))
            clear hll hP hS hK hm
            by_cases hlt : k < n2
            · have hlt1 : (k : Int) < (n2 : Int) := by omega
              obtain ⟨g1, o1, rfl⟩ := HM.out.get k (by have := HL.out.1; omega)
              obtain ⟨x, hx⟩ : ∃ x, lT[k]? = some x := ⟨_, List.getElem?_eq_getElem (by have := HL.out.1; omega)⟩
              have HX := Lib.hid hx
              obtain ⟨cs, hH, hcl, hcell, hfz, hg1, hg2⟩ := HM.out.cells k x hx
              obtain ⟨y0, y1, y2, y3, s4⟩ := x
              have ecs : cs = [.int .i64 y0, .int .i64 y1, .int .i64 y2, .int .i64 y3, .string s4] := hH
              subst ecs
              have HG := Lib.hid (And.intro hg1 hg2)
              have q4 : wr.cell? ⟨g1, o1 + k * 5 + 4, none⟩ = some (.string s4) := by have := hcell 4 _ rfl; simpa [eThing] using this
              have z4 : wr.frozen? ⟨g1, o1 + k * 5 + 4, none⟩ = false := by have := hfz 4 (by decide); simpa [eThing] using this
              have hkl : k < lT.length := by have := HL.out.1; omega
              have RX : Hid (rThing (y0, y1, y2, y3, s4)) := Lib.hid (HL.out.2.1 _ (List.mem_of_getElem? HX.out))
              clear hcell hfz hx hg1 hg2 hcl hH hkl
              go_wp2_with fail
              go_region_with (first
                | (go_at_call 20; (with_reducible refine (HCA.out _ _).mono ?_); rintro e w9 ⟨t0, rfl, ht0, rfl⟩; have HT0 := Lib.hid ht0; clear ht0))
              all_goals
                have m3 := (HM.out.set1 k (y0, y1, y2, y3, s4) (y0, y1, y2, y3, t0) HX.out 4 (by decide) (.string t0) (fun Pb cs h _ => by
                  have e : cs = [.int .i64 y0, .int .i64 y1, .int .i64 y2, .int .i64 y3, .string s4] := h
                  subst e; rfl)).keep ((Keep.refl (fun _ => False) _).drew) (fun _ _ _ h => h)
                have M5 : Hid (Mine eThing 61 r.c3 r.c4 (wr.setCell ⟨g1, o1 + k * 5 + 4, none⟩ (.string t0)).drew (.slice (some ⟨g1, o1, none⟩) n2 d2) (lT.set k (y0, y1, y2, y3, t0))) := Lib.hid m3
                have K5 : Hid (Keep (fun g => r.c3 ≤ g ∧ g < r.c4) wr (wr.setCell ⟨g1, o1 + k * 5 + 4, none⟩ (.string t0)).drew) := Lib.hid (((Keep.refl _ wr).setCell _ _ (.inl HG.out)).drew)
                clear m3 q4 z4 p4
                generalize (wr.setCell ⟨g1, o1 + k * 5 + 4, none⟩ (.string t0)).drew = w5 at *
                go_wp2_with fail
                go_roundw
                case rel =>
                  (repeat apply Exists.intro)
                  exact CtL.step hlt HL.out.1 HL.out.2.1 HL.out.2.2.1 HL.out.2.2.2 _ M5.out K5.out RX.out HT0.out rfl
                case measure => simp [intOf]; omega
            · obtain rfl : k = n2 := by omega
              have HFT : Hid (lT.length ≤ 12 ∧ ∀ d ∈ lT, rThing d ∧ sThing d) := Lib.hid ⟨by have := HL.out.1; omega, fun d hd => ⟨HL.out.2.1 d hd, by
                obtain ⟨j, hj⟩ := List.mem_iff_getElem?.1 hd
                exact HL.out.2.2.1 j d hj (by have := (List.getElem?_eq_some_iff.1 hj).1; have := HL.out.1; omega)⟩⟩
              obtain ⟨vT, hvT⟩ : ∃ vT, vT = Value.slice a2 k d2 := ⟨_, rfl⟩
              have HS : Hid (W6 r w wr now next minted vC vT v3 v4 v5 v6 lC lT mobs0 houses0 lots0 tills0) := Lib.hid (by rw [hvT]; exact H6R.out)
              clear H6R HL HM H6 HN2 HR2 hvT
              have hs := HS.out
              obtain ⟨a3, d3, e3, hle3, hmx3⟩ := hs.m3.slice
              subst e3
              unfold maxLen at hmx3
              have p5 := (hs.cell 5 _ rfl).1
              have f5 := (hs.cell 5 _ rfl).2
              obtain ⟨n3, hn3⟩ : ∃ n, n = mobs0.length := ⟨_, rfl⟩
              rw [← hn3] at hle3 p5 hs
              have HN3 := Lib.hid hn3
              have HT3 := Lib.hid hs
              clear hn3 hs HS
              go_upto_if 115 with fail
              go_cut [] from 116 to 123 (fun wx => ∃ (v : Value) (l : List MMob), W6 r w wx now next minted vC vT v v4 v5 v6 lC lT l houses0 lots0 tills0 ∧ l.length ≤ 8 ∧ ∀ d ∈ l, rMob d)
              case first =>
                by_cases h : 8 < n3
                · have hi : 8 < (n3 : Int) := by omega
                  go_wp2_with fail
                  go_meet
                  case rel => exact ⟨_, _, HT3.out.cut5 8 (by have := HN3.out; omega), by simp only [List.length_take]; omega, fun d hd => HW.out.mobs.1 d (List.mem_of_mem_take hd)⟩
                · have hi : (n3 : Int) ≤ 8 := by omega
                  go_wp2_with fail
                  go_meet
                  case rel => exact ⟨_, _, HT3.out, by have := HN3.out; omega, fun d hd => HW.out.mobs.1 d hd⟩
              case rest =>
                clear HT3 HN3 p5 f5 hle3 hmx3
                obtain ⟨vM, lM, h6, hl6, hr6⟩ := hcut
                have HFM : Hid (lM.length ≤ 8 ∧ ∀ d ∈ lM, rMob d) := Lib.hid ⟨hl6, hr6⟩
                have HS := Lib.hid h6
                clear h6 hl6 hr6
                have hs := HS.out
                obtain ⟨a4, d4, e4, hle4, hmx4⟩ := hs.m4.slice
                subst e4
                unfold maxLen at hmx4
                have p6 := (hs.cell 6 _ rfl).1
                have f6 := (hs.cell 6 _ rfl).2
                obtain ⟨n4, hn4⟩ : ∃ n, n = houses0.length := ⟨_, rfl⟩
                rw [← hn4] at hle4 p6 hs
                have HN4 := Lib.hid hn4
                have HT4 := Lib.hid hs
                clear hn4 hs HS
                go_upto_if 129 with fail
                go_cut [] from 130 to 137 (fun wx => ∃ (v : Value) (l : List MHouse), W6 r w wx now next minted vC vT vM v v5 v6 lC lT lM l lots0 tills0 ∧ l.length ≤ 5 ∧ ∀ d ∈ l, rHouse d)
                case first =>
                  by_cases h : 5 < n4
                  · have hi : 5 < (n4 : Int) := by omega
                    go_wp2_with fail
                    go_meet
                    case rel => exact ⟨_, _, HT4.out.cut6 5 (by have := HN4.out; omega), by simp only [List.length_take]; omega, fun d hd => (HW.out.houses.1 d (List.mem_of_mem_take hd)).1⟩
                  · have hi : (n4 : Int) ≤ 5 := by omega
                    go_wp2_with fail
                    go_meet
                    case rel => exact ⟨_, _, HT4.out, by have := HN4.out; omega, fun d hd => (HW.out.houses.1 d hd).1⟩
                case rest =>
                  clear HT4 HN4 p6 f6 hle4 hmx4
                  obtain ⟨vH, lH0, h6, hl6, hr6⟩ := hcut
                  obtain ⟨a4, d4, e4, hle4, hmx4⟩ := h6.m4.slice
                  subst e4
                  unfold maxLen at hmx4
                  obtain ⟨n4, hn4⟩ : ∃ n, n = lH0.length := ⟨_, rfl⟩
                  rw [← hn4] at h6 hle4 hl6
                  have HN4 := Lib.hid hn4
                  have H6 := Lib.hid h6
                  have HR4 := Lib.hid hr6
                  clear hn4 h6 hr6
                  go_wp2_with fail
                  go_loopw [7] (fun i wr => CtL eHouseW 65 r.c2 r.c3 rHouse sHouse wc (.slice a4 n4 d4) n4 i wr) (fun i _ => n4 - (intOf i).toNat)
                  case atStart => exact ⟨0, lH0, by omega, rfl, HN4.out.symm, H6.out.m4, HR4.out, fun _ _ _ h => by omega, Keep.refl _ _⟩
                  case round =>
                    obtain ⟨k, lH, hk, rfl, hll, hm, hP, hS, hK⟩ := hrel.ex
                    clear hrel
                    have H6R := Lib.hid (H6.out.turn6 hK hm)
                    have p6 := (H6R.out.cell 6 _ rfl).1
                    have HM := Lib.hid hm
                    have HL := Lib.hid (And.intro hll (And.intro hP (And.intro hS hK)))
                    clear hll hP hS hK hm
                    by_cases hlt : k < n4
                    · have hlt1 : (k : Int) < (n4 : Int) := by omega
                      obtain ⟨g1, o1, rfl⟩ := HM.out.get k (by have := HL.out.1; omega)
                      obtain ⟨x, hx⟩ : ∃ x, lH[k]? = some x := ⟨_, List.getElem?_eq_getElem (by have := HL.out.1; omega)⟩
                      have HX := Lib.hid hx
                      obtain ⟨cs, hH, hcl, hcell, hfz, hg1, hg2⟩ := HM.out.cells k x hx
                      obtain ⟨y0, s1, gs, y3⟩ := x
                      obtain ⟨gv, hgv, rfl⟩ := hH
                      have HG := Lib.hid (And.intro hg1 hg2)
                      have q1 : wr.cell? ⟨g1, o1 + k * 4 + 1, none⟩ = some (.string s1) := by have := hcell 1 _ rfl; simpa [eHouseW] using this
                      have z1 : wr.frozen? ⟨g1, o1 + k * 4 + 1, none⟩ = false := by have := hfz 1 (by decide); simpa [eHouseW] using this
                      have RX : Hid (rHouse (y0, s1, gs, y3)) := Lib.hid (HL.out.2.1 _ (List.mem_of_getElem? HX.out))
                      have hkl : k < lH.length := by have := HL.out.1; omega
                      have HGX : Hid (∀ z : MHouse, (lH.set k z)[k]? = some z) := Lib.hid (fun z => by rw [List.getElem?_set, if_pos rfl, if_pos hkl])
                      have HKL := Lib.hid hkl
                      clear hcell hfz hx hg1 hg2 hcl hgv hkl
                      go_upto_region 25 with fail
                      go_cut [] from 138 to 197 (fun wx => ∃ t0 : ByteArray, t0.size ≤ 30 ∧ wx = wr.setCell ⟨g1, o1 + k * 4 + 1, none⟩ (.string t0))
                      case first =>
                        go_wp2_with (go_at_call 20; (with_reducible refine (HCA.out _ _).mono ?_); rintro e w9 ⟨t0, rfl, ht0, rfl⟩; have HT0 := Lib.hid ht0; clear ht0)
                        go_meet
                        case rel => exact ⟨t0, HT0.out, rfl⟩
                      case rest =>
                        obtain ⟨t0, ht0, rfl⟩ := hcut
                        have HT0 := Lib.hid ht0
                        have M5 : Hid (Mine eHouseW 65 r.c2 r.c3 (wr.setCell ⟨g1, o1 + k * 4 + 1, none⟩ (.string t0)) (.slice (some ⟨g1, o1, none⟩) n4 d4) (lH.set k (y0, t0, gs, y3))) := Lib.hid (HM.out.set1 k (y0, s1, gs, y3) (y0, t0, gs, y3) HX.out 1 (by decide) (.string t0) (fun Pb cs h _ => by
                          obtain ⟨dv, h1, rfl⟩ := h; exact ⟨dv, h1, rfl⟩))
                        have K5 : Hid (Keep (fun g => r.c2 ≤ g ∧ g < r.c3) wr (wr.setCell ⟨g1, o1 + k * 4 + 1, none⟩ (.string t0))) := Lib.hid ((Keep.refl _ wr).setCell _ _ (.inl HG.out))
                        clear ht0 q1 z1 p6
                        generalize wr.setCell ⟨g1, o1 + k * 4 + 1, none⟩ (.string t0) = w5 at *
                        obtain ⟨cs5, hH5, _, hcell5, hfz5, _, _⟩ := M5.out.cells k _ (HGX.out _)
                        obtain ⟨gv5, hgv5, rfl⟩ := hH5
                        obtain ⟨ag, cg, rfl, hcg, hcm⟩ := hgv5.slice
                        unfold maxLen at hcm
                        simp only at hcg
                        have q2 : w5.cell? ⟨g1, o1 + k * 4 + 2, none⟩ = some (.slice ag gs.length cg) := by have := hcell5 2 _ rfl; simpa [eHouseW] using this
                        have z2 : w5.frozen? ⟨g1, o1 + k * 4 + 2, none⟩ = false := by have := hfz5 2 (by decide); simpa [eHouseW] using this
                        have Q2 := Lib.hid q2
                        obtain ⟨ng, hng⟩ : ∃ n, n = gs.length := ⟨_, rfl⟩
                        rw [← hng] at q2 hcg
                        have HNG := Lib.hid hng
                        clear hcell5 hfz5 hgv5 hng
                        go_upto_if 166 with fail
                        go_cut [] from 138 to 197 (fun wx => ∃ (l : List MHouse) (y : MHouse), GuS r (.slice (some ⟨g1, o1, none⟩) n4 d4) n4 k 0 wr wx l y)
                        case first =>
                          have hset : ∀ z : MHouse, rHouse z → (∀ d ∈ lH.set k z, rHouse d) ∧ (∀ (j : Nat) (x : MHouse), (lH.set k z)[j]? = some x → j < k → sHouse x) ∧ (lH.set k z).length = n4 := fun z hz =>
                            ⟨fun d hd => by
                              rcases List.mem_or_eq_of_mem_set hd with h | rfl
                              · exact HL.out.2.1 d h
                              · exact hz, fun j x hj hjk => by
                              rw [List.getElem?_set, if_neg (by omega)] at hj
                              exact HL.out.2.2.1 j x hj hjk, by rw [List.length_set]; exact HL.out.1⟩
                          have HSET := Lib.hid hset
                          clear hset
                          by_cases h5 : 5 < ng
                          · have h5i : 5 < (ng : Int) := by omega
                            have M6 : Hid (Mine eHouseW 65 r.c2 r.c3 (w5.setCell ⟨g1, o1 + k * 4 + 2, none⟩ (.slice ag 5 cg)) (.slice (some ⟨g1, o1, none⟩) n4 d4) (lH.set k (y0, t0, gs.take 5, y3))) := Lib.hid (by
                              have h9 := M5.out.set1 k _ (y0, t0, gs.take 5, y3) (HGX.out _) 2 (by decide) (.slice ag 5 cg) (fun Pb cs h hc => by
                                obtain ⟨dv, h1, rfl⟩ := h
                                have e := hc 2 dv rfl
                                have e2 : some dv = some (Value.slice ag gs.length cg) := e.symm.trans Q2.out
                                obtain rfl := Option.some.inj e2
                                exact ⟨_, h1.head 5 (show 5 < gs.length by have := HNG.out; omega), rfl⟩)
                              rwa [List.set_set] at h9)
                            go_wp2_with fail
                            go_meet
                            case rel =>
                              obtain ⟨a1, a2, a3⟩ := HSET.out (y0, t0, gs.take 5, y3) RX.out
                              exact ⟨_, _, a3, M6.out, a1, a2, K5.out.setCell _ _ (.inl HG.out), HGX.out _, HT0.out, by simp only [List.length_take]; omega, fun _ _ _ h => by omega⟩
                          · have h5i : (ng : Int) ≤ 5 := by omega
                            go_wp2_with fail
                            go_meet
                            case rel =>
                              obtain ⟨a1, a2, a3⟩ := HSET.out (y0, t0, gs, y3) RX.out
                              exact ⟨_, _, a3, M5.out, a1, a2, K5.out, HGX.out _, HT0.out, by have := HNG.out; simp only; omega, fun _ _ _ h => by omega⟩
                        case rest =>
                          obtain ⟨lG0, yG0, hgs⟩ := hcut
                          clear M5 K5 q2 z2 Q2 HNG hcg hcm RX HGX HX HM
                          obtain ⟨m, hm0⟩ : ∃ m, m = yG0.2.2.1.length := ⟨_, rfl⟩
                          have HGS := Lib.hid hgs
                          have HM0 := Lib.hid hm0
                          have hm5 : m ≤ 5 := by rw [hm0]; exact hgs.few
                          clear hgs hm0
                          go_wp2_with fail
                          go_loopw [9] (fun i wq => GuR r (.slice (some ⟨g1, o1, none⟩) n4 d4) n4 k m wr i wq) (fun i _ => m - (intOf i).toNat)
                          case atStart => exact ⟨0, lG0, yG0, by omega, rfl, HM0.out.symm, HGS.out⟩
                          case round =>
                            obtain ⟨j, lG, yG, hj, rfl, hmy, hgs⟩ := hrel.ex
                            clear hrel
                            have HGR := Lib.hid hgs
                            have HMY := Lib.hid hmy
                            obtain ⟨cs7, hH7, _, hcell7, _, _, _⟩ := hgs.mine.cells k _ hgs.at_
                            obtain ⟨gv7, hgv7, rfl⟩ := hH7
                            obtain ⟨ag7, cg7, rfl, hcg7, hcm7⟩ := hgv7.slice
                            unfold maxLen at hcm7
                            have q7 : wr.cell? ⟨g1, o1 + k * 4 + 2, none⟩ = some (.slice ag7 yG.2.2.1.length cg7) := by have := hcell7 2 _ rfl; simpa [eHouseW] using this
                            have Q7 := Lib.hid q7
                            have HV7 := Lib.hid hgv7
                            rw [hmy] at q7 hcg7
                            clear hcell7 hgv7 hgs hmy
                            by_cases hjl : j < m
                            · have hjl1 : (j : Int) < (m : Int) := by omega
                              obtain ⟨gb, go7, c8, e7, _⟩ := HV7.out.1.full (by rw [HMY.out]; omega)
                              simp only [Value.slice.injEq] at e7
                              obtain ⟨rfl, _, rfl⟩ := e7
                              have hbb := HV7.out.2 gb rfl
                              obtain ⟨sj, hsj⟩ : ∃ s, yG.2.2.1[j]? = some s := ⟨_, List.getElem?_eq_getElem (by have := HMY.out; omega)⟩
                              have c7 : wr.cell? ⟨gb, go7 + j, none⟩ = some (.string sj) := by
                                rw [HV7.out.1.cellAt j (by have := HMY.out; omega), List.getElem?_map, hsj]; rfl
                              have z7 : wr.frozen? ⟨gb, go7 + j, none⟩ = false := (HV7.out.1.there j (by omega)).2
                              have HBB := Lib.hid hbb
                              clear hsj hbb
                              go_wp2_with fail
                              go_region_with (first
                                | (go_at_call 20; (with_reducible refine (HCA.out _ _).mono ?_); rintro e w9 ⟨t1, rfl, ht1, rfl⟩; have HT1 := Lib.hid ht1; clear ht1))
                              all_goals
                                obtain ⟨l9, y9, h9, hl9⟩ := HGR.out.step Q7.out HBB.out.1 HBB.out.2 (by have := HMY.out; omega) t1 HT1.out (by
                                  rw [(HV7.out.1.stored j (.string t1)).cellAt j (by have := HMY.out; omega), List.getElem?_set, if_pos rfl, if_pos (by rw [List.length_map]; have := HMY.out; omega)])
                                have H9 := Lib.hid h9.drew
                                have HL9 := Lib.hid hl9
                                clear h9 hl9
                                go_wp2_with fail
                                go_roundw
                                case rel =>
                                  (repeat apply Exists.intro)
                                  exact ⟨j + 1, l9, y9, hjl, by rw [Int.natCast_add]; rfl, by rw [HL9.out, HMY.out], H9.out⟩
                                case measure => simp [intOf]; omega
                            · obtain rfl : j = m := by omega
                              go_wp2_with fail
                              go_roundw
                              case rel =>
                                (repeat apply Exists.intro)
                                exact CtL.next hlt HGR.out.len HGR.out.mine HGR.out.P HGR.out.S (HGR.out.done HMY.out) (HL.out.2.2.2.trans HGR.out.keep (fun _ e => .inl e)) rfl
                              case measure => simp [intOf]; omega
                    · obtain rfl : k = n4 := by omega
                      have HFH : Hid (lH.length ≤ 5 ∧ ∀ d ∈ lH, rHouse d ∧ sHouse d) := Lib.hid ⟨by have := HL.out.1; omega, fun d hd => ⟨HL.out.2.1 d hd, by
                        obtain ⟨j, hj⟩ := List.mem_iff_getElem?.1 hd
                        exact HL.out.2.2.1 j d hj (by have := (List.getElem?_eq_some_iff.1 hj).1; have := HL.out.1; omega)⟩⟩
                      obtain ⟨vH, hvH⟩ : ∃ vH, vH = Value.slice a4 k d4 := ⟨_, rfl⟩
                      have HS : Hid (W6 r w wr now next minted vC vT vM vH v5 v6 lC lT lM lH lots0 tills0) := Lib.hid (by rw [hvH]; exact H6R.out)
                      clear H6R HL HM H6 HN4 HR4 hvH
                      have hs := HS.out
                      obtain ⟨a5, d5, e5, hle5, hmx5⟩ := hs.m5.slice
                      subst e5
                      unfold maxLen at hmx5
                      have p7 := (hs.cell 7 _ rfl).1
                      have f7 := (hs.cell 7 _ rfl).2
                      obtain ⟨n5, hn5⟩ : ∃ n, n = lots0.length := ⟨_, rfl⟩
                      rw [← hn5] at hle5 p7 hs
                      have HN5 := Lib.hid hn5
                      have HT5 := Lib.hid hs
                      clear hn5 hs HS
                      go_upto_if 203 with fail
                      go_cut [] from 204 to 211 (fun wx => ∃ (v : Value) (l : List MLot), W6 r w wx now next minted vC vT vM vH v v6 lC lT lM lH l tills0 ∧ l.length ≤ 5 ∧ ∀ d ∈ l, rLot d)
                      case first =>
                        by_cases h : 5 < n5
                        · have hi : 5 < (n5 : Int) := by omega
                          go_wp2_with fail
                          go_meet
                          case rel => exact ⟨_, _, HT5.out.cut7 5 (by have := HN5.out; omega), by simp only [List.length_take]; omega, fun d hd => HW.out.lots.1 d (List.mem_of_mem_take hd)⟩
                        · have hi : (n5 : Int) ≤ 5 := by omega
                          go_wp2_with fail
                          go_meet
                          case rel => exact ⟨_, _, HT5.out, by have := HN5.out; omega, fun d hd => HW.out.lots.1 d hd⟩
                      case rest =>
                        clear HT5 HN5 p7 f7 hle5 hmx5
                        obtain ⟨vL, lL0, h6, hl6, hr6⟩ := hcut
                        obtain ⟨a5, d5, e5, hle5, hmx5⟩ := h6.m5.slice
                        subst e5
                        unfold maxLen at hmx5
                        obtain ⟨n5, hn5⟩ : ∃ n, n = lL0.length := ⟨_, rfl⟩
                        rw [← hn5] at h6 hle5 hl6
                        have HN5 := Lib.hid hn5
                        have H6 := Lib.hid h6
                        have HR5 := Lib.hid hr6
                        clear hn5 h6 hr6
                        go_wp2_with fail
                        go_loopw [10] (fun i wr => CtL eLot 67 r.c5 r.c6 rLot sLot wc (.slice a5 n5 d5) n5 i wr) (fun i _ => n5 - (intOf i).toNat)
                        case atStart => exact ⟨0, lL0, by omega, rfl, HN5.out.symm, H6.out.m5, HR5.out, fun _ _ _ h => by omega, Keep.refl _ _⟩
                        case round =>
                          obtain ⟨k, lL, hk, rfl, hll, hm, hP, hS, hK⟩ := hrel.ex
                          clear hrel
                          have H6R := Lib.hid (H6.out.turn7 hK hm)
                          have p7 := (H6R.out.cell 7 _ rfl).1
                          have HM := Lib.hid hm
                          have HL := Lib.hid (And.intro hll (And.intro hP (And.intro hS hK)))
                          clear hll hP hS hK hm
                          by_cases hlt : k < n5
                          · have hlt1 : (k : Int) < (n5 : Int) := by omega
                            obtain ⟨g1, o1, rfl⟩ := HM.out.get k (by have := HL.out.1; omega)
                            obtain ⟨x, hx⟩ : ∃ x, lL[k]? = some x := ⟨_, List.getElem?_eq_getElem (by have := HL.out.1; omega)⟩
                            have HX := Lib.hid hx
                            obtain ⟨cs, hH, hcl, hcell, hfz, hg1, hg2⟩ := HM.out.cells k x hx
                            obtain ⟨y0, y1, s2, y3, y4, s5, y6⟩ := x
                            have ecs : cs = [.int .i64 y0, .int .i64 y1, .string s2, .int .i64 y3, .int .i64 y4, .string s5, .int .i64 y6] := hH
                            subst ecs
                            have HG := Lib.hid (And.intro hg1 hg2)
                            have q2 : wr.cell? ⟨g1, o1 + k * 7 + 2, none⟩ = some (.string s2) := by have := hcell 2 _ rfl; simpa [eLot] using this
                            have z2 : wr.frozen? ⟨g1, o1 + k * 7 + 2, none⟩ = false := by have := hfz 2 (by decide); simpa [eLot] using this
                            have q5 : wr.cell? ⟨g1, o1 + k * 7 + 5, none⟩ = some (.string s5) := by have := hcell 5 _ rfl; simpa [eLot] using this
                            have z5 : wr.frozen? ⟨g1, o1 + k * 7 + 5, none⟩ = false := by have := hfz 5 (by decide); simpa [eLot] using this
                            have hkl : k < lL.length := by have := HL.out.1; omega
                            have HGX : Hid (∀ z : MLot, (lL.set k z)[k]? = some z) := Lib.hid (fun z => by rw [List.getElem?_set, if_pos rfl, if_pos hkl])
                            have RX : Hid (rLot (y0, y1, s2, y3, y4, s5, y6)) := Lib.hid (HL.out.2.1 _ (List.mem_of_getElem? HX.out))
                            clear hcell hfz hx hg1 hg2 hcl hH hkl
                            go_wp2_with fail
                            have hne : g1 ≠ r.B := by have := HG.out.1; have := r.h0; have := r.h1; have := r.h2; have := r.h3; have := r.h4; omega
                            refine wp_region_z (fun w' => w'.cell? ⟨r.B, 7, none⟩ = some (.slice (some ⟨g1, o1, none⟩) n5 d5) ∧ w'.cell? ⟨g1, o1 + k * 7 + 2, none⟩ = some (.string s2) ∧ w'.cell? ⟨g1, o1 + k * 7 + 5, none⟩ = some (.string s5)) [28, 29, 30, 31, 32, 33] (by kernel_rfl) ?_
                            have HS3 : Hid ((fun w' => w'.cell? ⟨r.B, 7, none⟩ = some (.slice (some ⟨g1, o1, none⟩) n5 d5) ∧ w'.cell? ⟨g1, o1 + k * 7 + 2, none⟩ = some (.string s2) ∧ w'.cell? ⟨g1, o1 + k * 7 + 5, none⟩ = some (.string s5)) wr.drew) := Lib.hid ⟨p7, q2, q5⟩
                            refine wpAnyZ_take (i := 0) (v := ?_) rfl (by kernel_rfl) (by kernel_rfl) (by kernel_rfl) (fun _ _ _ h => h) (by rfl) ?_ ?_
                            rotate_left 1
                            · (intro w9; go_simp <;> with_reducible rfl)
                            simp only [Act.put]
                            refine wpAnyZ_take (i := 1) (v := ?_) rfl (by kernel_rfl) (by kernel_rfl) (by kernel_rfl) (fun _ _ _ h => h) (by rfl) ?_ ?_
                            rotate_left 1
                            · (intro w9; go_simp <;> with_reducible rfl)
                            simp only [Act.put]
                            refine wpAnyZ_take (i := 2) (v := ?_) rfl (by kernel_rfl) (by kernel_rfl) (by kernel_rfl) (fun _ _ _ h => h) (by rfl) ?_ ?_
                            rotate_left 1
                            · (intro w9; go_simp <;> with_reducible rfl)
                            simp only [Act.put]
                            refine wpAnyZ_load (i := 3) (v := ?_) rfl (by kernel_rfl) (by kernel_rfl) (by kernel_rfl) (by kernel_rfl) (fun _ _ _ h => h) HS3.out (by rfl) ?_ ?_
                            rotate_left 1
                            · (intro w9 hS9; (try dsimp only at hS9); obtain ⟨h97, h92, h95⟩ := hS9; go_simp <;> with_reducible rfl)
                            simp only [Act.put]
                            refine wpAnyZ_take (i := 4) (v := ?_) rfl (by kernel_rfl) (by kernel_rfl) (by kernel_rfl) (fun _ _ _ h => h) (by rfl) ?_ ?_
                            rotate_left 1
                            · (intro w9; go_simp <;> with_reducible rfl)
                            simp only [Act.put]
                            refine wpAnyZ_take (i := 5) (v := ?_) rfl (by kernel_rfl) (by kernel_rfl) (by kernel_rfl) (fun _ _ _ h => h) (by rfl) ?_ ?_
                            rotate_left 1
                            · (intro w9; go_simp <;> with_reducible rfl)
                            simp only [Act.put]
                            refine wpAnyZ_take (i := 6) (v := ?_) rfl (by kernel_rfl) (by kernel_rfl) (by kernel_rfl) (fun _ _ _ h => h) (by rfl) ?_ ?_
                            rotate_left 1
                            · (intro w9; go_simp <;> with_reducible rfl)
                            simp only [Act.put]
                            refine wpAnyZ_take (i := 7) (v := ?_) rfl (by kernel_rfl) (by kernel_rfl) (by kernel_rfl) (fun _ _ _ h => h) (by rfl) ?_ ?_
                            rotate_left 1
                            · (intro w9; go_simp <;> with_reducible rfl)
                            simp only [Act.put]
                            refine wpAnyZ_load (i := 8) (v := ?_) rfl (by kernel_rfl) (by kernel_rfl) (by kernel_rfl) (by kernel_rfl) (fun _ _ _ h => h) HS3.out (by rfl) ?_ ?_
                            rotate_left 1
                            · (intro w9 hS9; (try dsimp only at hS9); obtain ⟨h97, h92, h95⟩ := hS9; go_simp <;> with_reducible rfl)
                            simp only [Act.put]
                            refine wpAnyZ_take (i := 9) (v := ?_) rfl (by kernel_rfl) (by kernel_rfl) (by kernel_rfl) (fun _ _ _ h => h) (by rfl) ?_ ?_
                            rotate_left 1
                            · (intro w9; go_simp <;> with_reducible rfl)
                            simp only [Act.put]
                            refine wpAnyZ_take (i := 10) (v := ?_) rfl (by kernel_rfl) (by kernel_rfl) (by kernel_rfl) (fun _ _ _ h => h) (by rfl) ?_ ?_
                            rotate_left 1
                            · (intro w9; go_simp <;> with_reducible rfl)
                            simp only [Act.put]
                            refine wpAnyZ_take (i := 11) (v := ?_) rfl (by kernel_rfl) (by kernel_rfl) (by kernel_rfl) (fun _ _ _ h => h) (by rfl) ?_ ?_
                            rotate_left 1
                            · (intro w9; go_simp <;> with_reducible rfl)
                            simp only [Act.put]
                            refine wpAnyZ_take (i := 12) (v := ?_) rfl (by kernel_rfl) (by kernel_rfl) (by kernel_rfl) (fun _ _ _ h => h) (by rfl) ?_ ?_
                            rotate_left 1
                            · (intro w9; go_simp <;> with_reducible rfl)
                            simp only [Act.put]
                            refine wpAnyZ_load (i := 13) (v := ?_) rfl (by kernel_rfl) (by kernel_rfl) (by kernel_rfl) (by kernel_rfl) (fun _ _ _ h => h) HS3.out (by rfl) ?_ ?_
                            rotate_left 1
                            · (intro w9 hS9; (try dsimp only at hS9); obtain ⟨h97, h92, h95⟩ := hS9; go_simp <;> with_reducible rfl)
                            simp only [Act.put]
                            refine wpAnyZ_take (i := 14) (v := ?_) rfl (by kernel_rfl) (by kernel_rfl) (by kernel_rfl) (fun _ _ _ h => h) (by rfl) ?_ ?_
                            rotate_left 1
                            · (intro w9; go_simp <;> with_reducible rfl)
                            simp only [Act.put]
                            refine wpAnyZ_take (i := 15) (v := ?_) rfl (by kernel_rfl) (by kernel_rfl) (by kernel_rfl) (fun _ _ _ h => h) (by rfl) ?_ ?_
                            rotate_left 1
                            · (intro w9; go_simp <;> with_reducible rfl)
                            simp only [Act.put]
                            refine wpAnyZ_take (i := 16) (v := ?_) rfl (by kernel_rfl) (by kernel_rfl) (by kernel_rfl) (fun _ _ _ h => h) (by rfl) ?_ ?_
                            rotate_left 1
                            · (intro w9; go_simp <;> with_reducible rfl)
                            simp only [Act.put]
                            refine wpAnyZ_load (i := 17) (v := ?_) rfl (by kernel_rfl) (by kernel_rfl) (by kernel_rfl) (by kernel_rfl) (fun _ _ _ h => h) HS3.out (by rfl) ?_ ?_
                            rotate_left 1
                            · (intro w9 hS9; (try dsimp only at hS9); obtain ⟨h97, h92, h95⟩ := hS9; go_simp <;> with_reducible rfl)
                            simp only [Act.put]
                            refine wpAnyZ_take (i := 19) (v := ?_) rfl (by kernel_rfl) (by kernel_rfl) (by kernel_rfl) (fun _ _ _ h => h) (by rfl) ?_ ?_
                            rotate_left 1
                            · (intro w9; go_simp <;> with_reducible rfl)
                            simp only [Act.put]
                            refine wpAnyZ_take (i := 20) (v := ?_) rfl (by kernel_rfl) (by kernel_rfl) (by kernel_rfl) (fun _ _ _ h => h) (by rfl) ?_ ?_
                            rotate_left 1
                            · (intro w9; go_simp <;> with_reducible rfl)
                            simp only [Act.put]
                            refine wpAnyZ_take (i := 21) (v := ?_) rfl (by kernel_rfl) (by kernel_rfl) (by kernel_rfl) (fun _ _ _ h => h) (by rfl) ?_ ?_
                            rotate_left 1
                            · (intro w9; go_simp <;> with_reducible rfl)
                            simp only [Act.put]
                            refine wpAnyZ_load (i := 22) (v := ?_) rfl (by kernel_rfl) (by kernel_rfl) (by kernel_rfl) (by kernel_rfl) (fun _ _ _ h => h) HS3.out (by rfl) ?_ ?_
                            rotate_left 1
                            · (intro w9 hS9; (try dsimp only at hS9); obtain ⟨h97, h92, h95⟩ := hS9; go_simp <;> with_reducible rfl)
                            simp only [Act.put]
                            refine wpAnyZ_take (i := 23) (v := ?_) rfl (by kernel_rfl) (by kernel_rfl) (by kernel_rfl) (fun _ _ _ h => h) (by rfl) ?_ ?_
                            rotate_left 1
                            · (intro w9; go_simp <;> with_reducible rfl)
                            simp only [Act.put]
                            refine wpAnyZ_take (i := 24) (v := ?_) rfl (by kernel_rfl) (by kernel_rfl) (by kernel_rfl) (fun _ _ _ h => h) (by rfl) ?_ ?_
                            rotate_left 1
                            · (intro w9; go_simp <;> with_reducible rfl)
                            simp only [Act.put]
                            refine wpAnyZ_take (i := 25) (v := ?_) rfl (by kernel_rfl) (by kernel_rfl) (by kernel_rfl) (fun _ _ _ h => h) (by rfl) ?_ ?_
                            rotate_left 1
                            · (intro w9; go_simp <;> with_reducible rfl)
                            simp only [Act.put]
                            refine wpAnyZ_load (i := 26) (v := ?_) rfl (by kernel_rfl) (by kernel_rfl) (by kernel_rfl) (by kernel_rfl) (fun _ _ _ h => h) HS3.out (by rfl) ?_ ?_
                            rotate_left 1
                            · (intro w9 hS9; (try dsimp only at hS9); obtain ⟨h97, h92, h95⟩ := hS9; go_simp <;> with_reducible rfl)
                            simp only [Act.put]
                            refine wpAnyZ_one (i := 18) rfl (by kernel_rfl) (by rfl) ?_
                            intro K9 hK9
                            go_simp
                            go_wp2_with (go_at_call 20; (with_reducible refine (HCA.out s2 _).mono ?_); rintro e w9 ⟨t0, rfl, ht0, rfl⟩; have HT0 := Lib.hid ht0; clear ht0)
                            refine hK9.out _ _ (fun _ h => h) ?_
                            clear hK9 K9
                            try simp only [Act.put]
                            refine wpAnyZ_one (i := 27) rfl (by kernel_rfl) (by rfl) ?_
                            intro K9 hK9
                            go_simp
                            go_wp2_with (go_at_call 20; (with_reducible refine (HCA.out s5 _).mono ?_); rintro e w9 ⟨t1, rfl, ht1, rfl⟩; have HT1 := Lib.hid ht1; clear ht1)
                            refine hK9.out _ _ (fun _ h => h) ?_
                            clear hK9 K9
                            try simp only [Act.put]
                            refine wpAnyZ_take (i := 28) (v := ?_) rfl (by kernel_rfl) (by kernel_rfl) (by kernel_rfl) (fun _ _ _ h => h) (by rfl) ?_ ?_
                            rotate_left 1
                            · (intro w9; go_simp <;> with_reducible rfl)
                            simp only [Act.put]
                            refine wpAnyZ_take (i := 29) (v := ?_) rfl (by kernel_rfl) (by kernel_rfl) (by kernel_rfl) (fun _ _ _ h => h) (by rfl) ?_ ?_
                            rotate_left 1
                            · (intro w9; go_simp <;> with_reducible rfl)
                            simp only [Act.put]
                            refine wpAnyZ_one (i := 30) rfl (by kernel_rfl) (by rfl) ?_
                            intro K9 hK9
                            go_simp
                            refine hK9.out _ _ (fun hn => absurd (by decide) hn) ?_
                            clear hK9 K9
                            refine wpAnyZ_take (i := 31) (v := ?_) rfl (by kernel_rfl) (by kernel_rfl) (by kernel_rfl) (fun _ _ _ h => h) (by rfl) ?_ ?_
                            rotate_left 1
                            · (intro w9; go_simp <;> with_reducible rfl)
                            simp only [Act.put]
                            refine wpAnyZ_take (i := 32) (v := ?_) rfl (by kernel_rfl) (by kernel_rfl) (by kernel_rfl) (fun _ _ _ h => h) (by rfl) ?_ ?_
                            rotate_left 1
                            · (intro w9; go_simp <;> with_reducible rfl)
                            simp only [Act.put]
                            refine wpAnyZ_one (i := 33) rfl (by kernel_rfl) (by rfl) ?_
                            intro K9 hK9
                            go_simp
                            refine hK9.out _ _ (fun hn => absurd (by decide) hn) ?_
                            clear hK9 K9
                            refine wpAnyZ_done (by kernel_rfl) ?_ _
                            all_goals
                              have m3 := (HM.out.set1 k (y0, y1, s2, y3, y4, s5, y6) (y0, y1, t0, y3, y4, s5, y6) HX.out 2 (by decide) (.string t0) (fun Pb cs h _ => by
                                have e : cs = [.int .i64 y0, .int .i64 y1, .string s2, .int .i64 y3, .int .i64 y4, .string s5, .int .i64 y6] := h
                                subst e; rfl)).set1 k (y0, y1, t0, y3, y4, s5, y6) (y0, y1, t0, y3, y4, t1, y6) (HGX.out _) 5 (by decide) (.string t1) (fun Pb cs h _ => by
                                have e : cs = [.int .i64 y0, .int .i64 y1, .string t0, .int .i64 y3, .int .i64 y4, .string s5, .int .i64 y6] := h
                                subst e; rfl)
                              have m4 := m3.keep ((Keep.refl (fun _ => False) _).drew) (fun _ _ _ h => h)
                              rw [List.set_set] at m4
                              have M5 : Hid (Mine eLot 67 r.c5 r.c6 ((wr.setCell ⟨g1, o1 + k * 7 + 2, none⟩ (.string t0)).setCell ⟨g1, o1 + k * 7 + 5, none⟩ (.string t1)).drew (.slice (some ⟨g1, o1, none⟩) n5 d5) (lL.set k (y0, y1, t0, y3, y4, t1, y6))) := Lib.hid m4
                              have K5 : Hid (Keep (fun g => r.c5 ≤ g ∧ g < r.c6) wr ((wr.setCell ⟨g1, o1 + k * 7 + 2, none⟩ (.string t0)).setCell ⟨g1, o1 + k * 7 + 5, none⟩ (.string t1)).drew) := Lib.hid ((((Keep.refl _ wr).setCell _ _ (.inl HG.out)).setCell _ _ (.inl HG.out)).drew)
                              clear m3 m4 q2 z2 q5 z5 p7
                              generalize ((wr.setCell ⟨g1, o1 + k * 7 + 2, none⟩ (.string t0)).setCell ⟨g1, o1 + k * 7 + 5, none⟩ (.string t1)).drew = w5 at *
                              go_wp2_with fail
                              go_roundw
                              case rel =>
                                (repeat apply Exists.intro)
                                exact CtL.step hlt HL.out.1 HL.out.2.1 HL.out.2.2.1 HL.out.2.2.2 _ M5.out K5.out RX.out ⟨HT0.out, HT1.out⟩ rfl
                              case measure => simp [intOf]; omega
                          · obtain rfl : k = n5 := by omega
                            have HFL : Hid (lL.length ≤ 5 ∧ ∀ d ∈ lL, rLot d ∧ sLot d) := Lib.hid ⟨by have := HL.out.1; omega, fun d hd => ⟨HL.out.2.1 d hd, by
                              obtain ⟨j, hj⟩ := List.mem_iff_getElem?.1 hd
                              exact HL.out.2.2.1 j d hj (by have := (List.getElem?_eq_some_iff.1 hj).1; have := HL.out.1; omega)⟩⟩
                            obtain ⟨vL, hvL⟩ : ∃ vL, vL = Value.slice a5 k d5 := ⟨_, rfl⟩
                            have HS : Hid (W6 r w wr now next minted vC vT vM vH vL v6 lC lT lM lH lL tills0) := Lib.hid (by rw [hvL]; exact H6R.out)
                            clear H6R HL HM H6 HN5 HR5 hvL
                            have hs := HS.out
                            obtain ⟨a6, d6, e6, hle6, hmx6⟩ := hs.m6.slice
                            subst e6
                            unfold maxLen at hmx6
                            have p8 := (hs.cell 8 _ rfl).1
                            have f8 := (hs.cell 8 _ rfl).2
                            obtain ⟨n6, hn6⟩ : ∃ n, n = tills0.length := ⟨_, rfl⟩
                            rw [← hn6] at hle6 p8 hs
                            have HN6 := Lib.hid hn6
                            have HT6 := Lib.hid hs
                            clear hn6 hs HS
                            go_upto_if 258 with fail
                            go_cut [] from 259 to 266 (fun wx => ∃ (v : Value) (l : List MTill), W6 r w wx now next minted vC vT vM vH vL v lC lT lM lH lL l ∧ l.length ≤ 5 ∧ ∀ d ∈ l, rTill d)
                            case first =>
                              by_cases h : 5 < n6
                              · have hi : 5 < (n6 : Int) := by omega
                                go_wp2_with fail
                                go_meet
                                case rel => exact ⟨_, _, HT6.out.cut8 5 (by have := HN6.out; omega), by simp only [List.length_take]; omega, fun d hd => HW.out.tills.1 d (List.mem_of_mem_take hd)⟩
                              · have hi : (n6 : Int) ≤ 5 := by omega
                                go_wp2_with fail
                                go_meet
                                case rel => exact ⟨_, _, HT6.out, by have := HN6.out; omega, fun d hd => HW.out.tills.1 d hd⟩
                            case rest =>
                              clear HT6 HN6 p8 f8 hle6 hmx6
                              obtain ⟨vX, lX, h6, hl6, hr6⟩ := hcut
                              go_wp2_with fail
                              go_ret
                              exact ⟨r.B, (now, next, minted, lC, lT, lM, lH, lL, lX), rfl, h6.pat, ⟨HW.out.now, HW.out.next, HW.out.minted, HFC.out, HFT.out, HFM.out, HFH.out, HFL.out, ⟨hl6, hr6⟩⟩, h6.keep⟩

end Go.Proofs.Ytpefkellcigpkaa.Cd
