/- CodecBytes: its walk. -/
import Derived.Test.YtmibepjfbapbdaaCdBeg
import Derived.Test.YtmibepjfbapbdaaCdByt
import Derived.Test.YtmibepjfbapbdaaCdZ
import Derived.Deep.CutBlock
import Derived.Deep.CutRange
import Derived.Deep.RegionWith
import Derived.OwnWalk
import Derived.Deep.QuietTactic
import Derived.BigQuiet
namespace Go.Proofs.Ytmibepjfbapbdaa.Cd
open Go.RowKit Go.Deep Go.Proofs.Ytmibepjfbapbdaa
set_option maxRecDepth 100000

theorem kdrewN (w : World) (n : Nat) : Keep (fun _ => False) w (w.drewN n) := ⟨rfl, rfl, rfl, Nat.le_refl _, fun _ _ _ => rfl⟩
theorem is_same_q (w : World) : Calls Try.prog 18 #[.iface 51 (.int .i64 4), .int .i64 4] w fun e w' => e = .returned (.bool true) ∧ w' = w :=
  (is_same 4 rfl (w := w)).mono fun _ _ h => ⟨h.1, h.2.symm⟩

abbrev vcells (k : Int) (s t : ByteArray) (dv : Value) : Array Value := #[.int .i64 k, .string s, .string t, dv]

set_option maxHeartbeats 8000000 in
theorem codecBytes_any (HEW : EqWorldSpec) (HCW : CutSpec) {w : World} {x : MWorld} {v1 v2 v3 v4 v5 v6 : Value} (hx : eWorld.H (fun b => b < w.heap.size) w x (wcells x.1 x.2.1 x.2.2.1 v1 v2 v3 v4 v5 v6).toList) (hw : wWorld x)
    {k1 : Int} {s1 t1 : ByteArray} {l1 : List Int} {dv : Value} (hL : LAt eI (fun b => b < w.heap.size) w dv l1) (hre : rEvent (k1, s1, t1, l1))
    {rv : Value} {rb : List UInt8} (hR : Seen w 1 rv rb.length (bcells rb)) {at_ cut : Int} (hat : okN at_) (hcu : okN cut) {xb : UInt8} :
    Calls Try.prog 5 #[.agg (wcells x.1 x.2.1 x.2.2.1 v1 v2 v3 v4 v5 v6), .agg (vcells k1 s1 t1 dv), .int .i64 at_, .int .u8 (xb.toNat : Int), rv, .int .i64 cut] w fun e w' => e = .returned (.bool true) ∧ Keep (fun _ => False) w w' := by
  obtain ⟨ae, ce, rfl, _⟩ := hL.slice
  obtain ⟨n1, hn1⟩ : ∃ n, n = l1.length := ⟨_, rfl⟩
  obtain ⟨ar, nr, cr, rfl, hnr, hle, hmx⟩ : ∃ a n c, rv = .slice a n c ∧ n = rb.length ∧ n ≤ c ∧ c ≤ maxLen := by obtain ⟨_, a, c, h1, h2, h3, _⟩ := hR; exact ⟨a, _, c, h1, rfl, h2, h3⟩
  unfold maxLen at hmx
  rw [← hn1] at hL ⊢
  rw [← hnr] at hR
  have K2 : Hid (Keep (fun _ => False) w ((w.alloc (.cells (wcells x.1 x.2.1 x.2.2.1 v1 v2 v3 v4 v5 v6) 29)).alloc (.cells (vcells k1 s1 t1 (.slice ae n1 ce)) 44))) := Lib.hid (((Keep.refl _ w).alloc _).alloc _)
  have hA : ((w.alloc (.cells (wcells x.1 x.2.1 x.2.2.1 v1 v2 v3 v4 v5 v6) 29)).alloc (.cells (vcells k1 s1 t1 (.slice ae n1 ce)) 44)).heap[w.heap.size]? = some (.cells (wcells x.1 x.2.1 x.2.2.1 v1 v2 v3 v4 v5 v6) 29 (0, 0)) :=
    (((Keep.refl (fun _ => False) (w.alloc _)).alloc _).block _ (by rw [World.size_alloc]; omega) (fun h => h)).trans (heap_alloc_new w _)
  have hB : ((w.alloc (.cells (wcells x.1 x.2.1 x.2.2.1 v1 v2 v3 v4 v5 v6) 29)).alloc (.cells (vcells k1 s1 t1 (.slice ae n1 ce)) 44)).heap[w.heap.size + 1]? = some (.cells (vcells k1 s1 t1 (.slice ae n1 ce)) 44 (0, 0)) := by
    have h9 := heap_alloc_new (w.alloc (.cells (wcells x.1 x.2.1 x.2.2.1 v1 v2 v3 v4 v5 v6) 29)) (.cells (vcells k1 s1 t1 (.slice ae n1 ce)) 44)
    rwa [World.size_alloc] at h9
  have HA := Lib.hid hA
  have HB := Lib.hid hB
  have HX := Lib.hid hx
  have HW := Lib.hid hw
  have HL := Lib.hid hL
  have HRE := Lib.hid hre
  have HR := Lib.hid (And.intro hR hnr)
  have HAT := Lib.hid hat
  have HCU := Lib.hid hcu
  have HN1 := Lib.hid hn1
  obtain ⟨y0, y1, y2, y3⟩ := x
  clear hA hB hx hw hL hre hR hat hcu hn1 hnr
  go_enter Try.func5, Try.ntmps5
  go_wp2_with fail
  generalize ((w.alloc (.cells (wcells y0 y1 y2 v1 v2 v3 v4 v5 v6) 29)).alloc (.cells (vcells k1 s1 t1 (.slice ae n1 ce)) 44)) = w2 at *
  obtain ⟨B, hBB⟩ : ∃ B, B = w.heap.size := ⟨_, rfl⟩
  rw [← hBB] at HA HB ⊢
  have HBB := Lib.hid hBB
  clear hBB
  refine (begun_any HEW).mono ?_
  rintro e w3 ⟨rfl, hk3⟩
  have K3 := Lib.hid (K2.out.trans hk3 (fun _ h => h.elim))
  have HA3 := Lib.hid ((hk3.block _ (lt_of_block HA.out) (fun h => h)).trans HA.out)
  have HB3 := Lib.hid ((hk3.block _ (lt_of_block HB.out) (fun h => h)).trans HB.out)
  clear hk3 HA HB K2
  go_upto_if 26 with (fail)
  go_cut [4] from 27 to 28 (fun v wx => Rest20 w3 v wx)
  case first =>
    by_cases h : 20 < nr
    · have hi : 20 < (nr : Int) := by omega
      go_wp2_with fail
      go_meet
      case rel => exact ⟨rfl, rb.take 20, by rw [List.length_take]; omega, by
        have e : (rb.take 20).length = 20 := by have := HR.out.2; rw [List.length_take]; omega
        rw [e]
        exact (Seen.front HR.out.1 (k := 20) (by omega)).keep K3.out (fun _ _ _ h => h)⟩
    · have hi : (nr : Int) ≤ 20 := by omega
      go_wp2_with fail
      go_meet
      case rel => exact ⟨rfl, rb, by have := HR.out.2; omega, by rw [← HR.out.2]; exact HR.out.1.keep K3.out (fun _ _ _ h => h)⟩
  case rest =>
    obtain ⟨hsame, hex⟩ := hcut
    subst hsame
    generalize wc = w3 at *
    have HREST := Lib.hid hex
    clear hex HR hle hmx
    have hxx : Hid (∀ w9, Keep (fun _ => False) w3 w9 → eWorld.H (fun b => b < w9.heap.size) w9 (y0, y1, y2, y3) (wcells y0 y1 y2 v1 v2 v3 v4 v5 v6).toList) := Lib.hid (fun w9 k9 => eWorld.mono (fun b _ hb => by have := K3.out.size; have := k9.size; omega) (eWorld.keep (K3.out.trans k9 (fun _ h => h.elim)) (fun _ _ _ h => h) HX.out))
    go_wp2_with fail
    go_loopw [14] (fun i wr => ByR w3 i wr) (fun i _ => 2 - (intOf i).toNat)
    case atStart => exact ⟨0, by omega, rfl, Keep.refl _ _⟩
    case round =>
      obtain ⟨k, hk, rfl, hkr⟩ := hrel.ex
      clear hrel
      have HKR := Lib.hid hkr
      have HA4 := Lib.hid ((hkr.block _ (lt_of_block HA3.out) (fun h => h)).trans HA3.out)
      have HB4 := Lib.hid ((hkr.block _ (lt_of_block HB3.out) (fun h => h)).trans HB3.out)
      clear hkr
      by_cases hlt : k < 2
      · have hlt1 : (k : Int) < 2 := by omega
        have p0 : _ = some (Value.int .i64 y0) := (cell_of_row _ _ 0 _ _ _ HA4.out).trans rfl
        have p1 : _ = some (Value.int .i64 y1) := (cell_of_row _ _ 1 _ _ _ HA4.out).trans rfl
        have p2 : _ = some (Value.int .i64 y2) := (cell_of_row _ _ 2 _ _ _ HA4.out).trans rfl
        have p3 : _ = some v1 := (cell_of_row _ _ 3 _ _ _ HA4.out).trans rfl
        have p4 : _ = some v2 := (cell_of_row _ _ 4 _ _ _ HA4.out).trans rfl
        have p5 : _ = some v3 := (cell_of_row _ _ 5 _ _ _ HA4.out).trans rfl
        have p6 : _ = some v4 := (cell_of_row _ _ 6 _ _ _ HA4.out).trans rfl
        have p7 : _ = some v5 := (cell_of_row _ _ 7 _ _ _ HA4.out).trans rfl
        have p8 : _ = some v6 := (cell_of_row _ _ 8 _ _ _ HA4.out).trans rfl
        have HCT := Lib.hid (HCW (hxx.out wr HKR.out) HW.out)
        go_upto_if 37 with (first
          | (go_at_call 7
             (with_reducible refine HCT.out.mono ?_)
             rintro e w4 ⟨g4, x4, rfl, hp4, hs4, hk4⟩
             have HP4 := Lib.hid hp4
             have HS4 := Lib.hid hs4
             have HK4 := Lib.hid hk4
             clear hp4 hs4 hk4)
          | (go_at_call 8
             (with_reducible refine (world_any (Pb := fun b => b < w4.heap.size) (fun _ h => h) (HP4.out.mono (fun _ h _ => h)) HS4.out.okW (by have := HS4.out.len; unfold lim; omega)).mono ?_)
             rintro e w5 ⟨a5, n5, c5, rfl, h5⟩
             have H5 : Hid (OwnB wr 100001 (.slice a5 n5 c5) w5) := Lib.hid ⟨_, by have := HS4.out.len; rw [List.length_cons]; omega, h5.since HK4.out⟩
             clear h5))
        go_cut [15] from 38 to 40 (fun v wx => OwnB wr 100001 v wx)
        case first =>
          obtain ⟨bs5, hb5, ho5⟩ := H5.out.ex
          have HK5 := Lib.hid ho5.keep
          have HB5 := Lib.hid ((ho5.keep.block _ (lt_of_block HB4.out) (fun h => h)).trans HB4.out)
          have KW5 := Lib.hid ((K3.out.trans HKR.out (fun _ h => h.elim)).trans ho5.keep (fun _ h => h.elim))
          clear hb5 ho5 p0 p1 p2 p3 p4 p5 p6 p7 p8
          rcases (by omega : k = 0 ∨ k = 1) with rfl | rfl
          · go_wp2_with fail
            go_meet
            case rel => exact H5.out
          · have q0 : _ = some (Value.int .i64 k1) := (cell_of_row _ _ 0 _ _ _ HB5.out).trans rfl
            have q1 : _ = some (Value.string s1) := (cell_of_row _ _ 1 _ _ _ HB5.out).trans rfl
            have q2 : _ = some (Value.string t1) := (cell_of_row _ _ 2 _ _ _ HB5.out).trans rfl
            have q3 : _ = some (Value.slice ae n1 ce) := (cell_of_row _ _ 3 _ _ _ HB5.out).trans rfl
            have HCE := Lib.hid (cutEvent_any (w := w5) (Pb := fun b => b < w5.heap.size) (k := k1) (s := s1) (t := t1) ((HL.out.keep KW5.out (fun _ _ _ h => h)).mono (fun b h _ => h)) HRE.out.1 HRE.out.2)
            go_wp2_with (first
              | (go_at_call 13
                 (with_reducible refine HCE.out.mono ?_)
                 rintro e w6 ⟨z, zd, rfl, hz, hzs, hk6⟩
                 have HZ := Lib.hid hz
                 have HZS := Lib.hid hzs
                 have HK6 := Lib.hid hk6
                 obtain ⟨z0, z1, z2, z3⟩ := z
                 simp only
                 have HEV := Lib.hid (event_any (w := w6) (x := (z0, z1, z2, z3)) (Pb := fun b => b < w6.heap.size) (fun _ h => h) ⟨zd, hz.mono (fun _ h _ => h), rfl⟩ hzs.okV (by have := hzs.len2; unfold lim; omega))
                 unfold struct_ at HEV
                 simp only at HEV
                 clear hz hzs hk6)
              | (go_at_call 14
                 (with_reducible refine HEV.out.mono ?_)
                 rintro e w7 ⟨a7, n7, c7, rfl, h7⟩
                 have H7 : Hid (OwnB wr 100001 (.slice a7 n7 c7) w7) := Lib.hid ⟨_, by have := HZS.out.len2; rw [List.length_cons]; omega, h7.since (HK5.out.trans HK6.out (fun _ h => h.elim))⟩
                 clear h7))
            go_meet
            case rel => exact H7.out
        case rest =>
          obtain ⟨bs, hbs, ho⟩ := hcut.ex
          generalize wc = w5 at *
          have HO0 : Hid (Out (fun _ => False) wr w5 (.slice none 0 0) []) := Lib.hid (Out.ofNil ho.keep)
          have HSRC := Lib.hid (ho.row.src (tx := 33) Try.underlying33 (bcells_one bs))
          have HBS := Lib.hid hbs
          obtain ⟨rb2, hrb, hrs⟩ := HREST.out
          have HSR := Lib.hid (fun (w9 : World) (k9 : Keep (fun _ => False) wr w9) => Seen.src1 (P := Try.prog) (tx := 33) (Seen.keep hrs (HKR.out.trans k9 (fun _ h => h.elim)) (fun _ _ _ h => h)) Try.underlying33 (bcells_one rb2))
          have HRB := Lib.hid hrb
          clear hbs ho hrs hrb p0 p1 p2 p3 p4 p5 p6 p7 p8 hcut HCT
          go_upto_region 13 with (first
            | (at_builtin
               (
                 refine wpList_append_out rfl (.const (.slice none 0 0)) (.tmp 41) rfl rfl HO0.out rfl HSRC.out (by have := HBS.out; unfold lim; simp only [List.length_nil]; omega) ?_
                 intro v6 w6 h6
                 obtain ⟨a6, n6, c6, rfl⟩ := h6.slice
                 rw [List.nil_append] at h6
                 have HC6 := Lib.hid h6
                 have HC6k := Lib.hid h6.keep
                 clear h6))
            | (at_builtin
               (
                 refine wpList_append_out rfl (.tmp 42) (.tmp 43) rfl rfl HC6.out rfl (HSR.out _ HC6k.out) (by have := HBS.out; have := HRB.out; unfold lim; omega) ?_
                 intro v7 w7 h7
                 obtain ⟨a7, n7, c7, rfl⟩ := h7.slice
                 obtain ⟨bs7, hbs7⟩ : ∃ bs7, bs7 = bs ++ rb2 := ⟨_, rfl⟩
                 rw [← hbs7] at h7
                 have HL7 : Hid (bs7.length ≤ 100021) := Lib.hid (by rw [hbs7, List.length_append]; have := HBS.out; have := HRB.out; omega)
                 have HC7 := Lib.hid h7
                 clear h7 hbs7)))
          have HN7 : Hid (n7 = bs7.length) := Lib.hid (by obtain ⟨_, _, e, _⟩ := HC7.out.row.slice; simp only [Value.slice.injEq] at e; exact e.2.1)
          have HM7 := Lib.hid HC7.out.row.slice
          go_cut [52] from 45 to 52 (fun v wx => v = .bool (decide (0 < cut ∧ cut < (n7 : Int))) ∧ wx = w7)
          case first =>
            by_cases h1 : 0 < cut
            · by_cases h2 : cut < (n7 : Int)
              · have hd : decide (0 < cut ∧ cut < (n7 : Int)) = true := decide_eq_true ⟨h1, h2⟩
                go_wp2_with fail
                go_meet
                case rel => exact ⟨by rw [hd], rfl⟩
              · have hd : decide (0 < cut ∧ cut < (n7 : Int)) = false := decide_eq_false (fun h => h2 h.2)
                go_wp2_with fail
                go_meet
                case rel => exact ⟨by rw [hd], rfl⟩
            · have hd : decide (0 < cut ∧ cut < (n7 : Int)) = false := decide_eq_false (fun h => h1 h.1)
              go_wp2_with fail
              go_meet
              case rel => exact ⟨by rw [hd], rfl⟩
          case rest =>
          obtain ⟨rfl, hw7⟩ := hcut
          subst hw7
          generalize wc = w7 at *
          go_upto_if 52 with fail
          go_cut [16] from 53 to 58 (fun v wx => OwnB wr 100021 v wx)
          case first =>
            by_cases h1 : 0 < cut ∧ cut < (n7 : Int)
            · have hd : decide (0 < cut ∧ cut < (n7 : Int)) = true := decide_eq_true h1
              obtain ⟨m, hm⟩ : ∃ m : Nat, (n7 : Int) - cut = (m : Int) := ⟨((n7 : Int) - cut).toNat, by omega⟩
              have hmn : m < n7 := by omega
              have hmw : IntKind.i64.wrap (m : Int) = (m : Int) := i64_nat m (by have := HN7.out; have := HL7.out; omega)
              have hmc : m ≤ c7 := by obtain ⟨_, _, e, h, _⟩ := HM7.out; simp only [Value.slice.injEq] at e; have := HN7.out; omega
              go_wp2_with fail
              go_meet
              case rel => exact ⟨_, by rw [List.length_take]; have := HL7.out; omega, HC7.out.front (k := m) (by have := HN7.out; omega) (by have := HN7.out; omega)⟩
            · have hd : decide (0 < cut ∧ cut < (n7 : Int)) = false := decide_eq_false h1
              go_wp2_with fail
              go_meet
              case rel => exact ⟨_, HL7.out, HC7.out⟩
          case rest =>
          obtain ⟨bs9, hl9, ho9⟩ := hcut.ex
          generalize wc = w9 at *
          clear hcut HC7 HL7 HN7 HM7 HC6 HC6k HO0 HSRC HSR HBS HRB
          obtain ⟨a9, c9, hv9, hle9, hmx9⟩ := ho9.row.slice
          obtain ⟨n9, hn9⟩ : ∃ n, n = bs9.length := ⟨_, rfl⟩
          rw [← hn9] at hv9 hle9
          subst hv9
          have HO9 := Lib.hid ho9
          have HL9 := Lib.hid hl9
          have HN9 := Lib.hid hn9
          have hn9i : (n9 : Int) ≤ 100021 := by omega
          clear ho9 hl9 hn9 hmx9
          go_upto_region 15 with fail
          go_cut [65] from 59 to 65 (fun v wx => v = .bool (decide (0 < n9 ∧ 0 ≤ at_)) ∧ wx = w9)
          case first =>
            by_cases h1 : 0 < n9
            · have h1i : 0 < (n9 : Int) := by omega
              by_cases h2 : 0 ≤ at_
              · have hd : decide (0 < n9 ∧ 0 ≤ at_) = true := decide_eq_true ⟨h1, h2⟩
                go_wp2_with fail
                go_meet
                case rel => exact ⟨by rw [hd], rfl⟩
              · have hd : decide (0 < n9 ∧ 0 ≤ at_) = false := decide_eq_false (fun h => h2 h.2)
                have h2i : at_ < 0 := by omega
                clear h2
                go_wp2_with fail
                go_meet
                case rel => exact ⟨by rw [hd, decide_eq_false (show ¬ 0 ≤ at_ by omega)], rfl⟩
            · obtain rfl : n9 = 0 := by omega
              clear h1
              go_wp2_with fail
              go_meet
              case rel => exact ⟨by simp, rfl⟩
          case rest =>
          obtain ⟨rfl, hw9⟩ := hcut
          subst hw9
          generalize wc = w9 at *
          go_upto_if 65 with fail
          go_cut [] from 66 to 75 (fun wx => OwnB wr 100021 (.slice a9 n9 c9) wx)
          case first =>
            by_cases h1 : 0 < n9 ∧ 0 ≤ at_
            · have hd : decide (0 < n9 ∧ 0 ≤ at_) = true := decide_eq_true h1
              obtain ⟨g9, off9, cap9, e9⟩ := HO9.out.full (by have := HN9.out; omega)
              simp only [Value.slice.injEq] at e9
              obtain ⟨rfl, -, rfl⟩ := e9
              obtain ⟨t, ht⟩ : ∃ t : Nat, at_ = (t : Int) := ⟨at_.toNat, by omega⟩
              subst ht
              have hjn : t % n9 < n9 := Nat.mod_lt _ h1.1
              obtain ⟨cb, hc, hf⟩ := HO9.out.byte HN9.out hjn
              obtain ⟨d, hd2⟩ := xor_u8 (cb.toNat : Int) (xb.toNat : Int)
              go_wp2_with fail
              go_meet
              case rel => exact ⟨_, by rw [List.length_set]; exact HL9.out, HO9.out.poked d HN9.out⟩
            · have hd : decide (0 < n9 ∧ 0 ≤ at_) = false := decide_eq_false h1
              go_wp2_with fail
              go_meet
              case rel => exact ⟨_, HL9.out, HO9.out⟩
          case rest =>
          obtain ⟨bs, hl, ho⟩ := hcut.ex
          generalize wc = wz at *
          clear hcut HO9 HL9 HN9
          have HO := Lib.hid ho
          have HL0 := Lib.hid hl
          have HN : Hid (n9 = bs.length) := Lib.hid (by obtain ⟨_, _, e, _⟩ := ho.row.slice; simp only [Value.slice.injEq] at e; exact e.2.1)
          have hseen : Seen wz 1 (.slice a9 n9 c9) bs.length (bcells bs) := ho.row.seen
          have hown : ∀ b, own (.slice a9 n9 c9) b → b < wz.heap.size := fun b hb => ho.row.lt hb
          rcases (by omega : k = 0 ∨ k = 1) with rfl | rfl
          · have HRW := Lib.hid (readWorld_any hseen hown)
            have hbwd := whole_bwd 87 cWorld bs
            have HBW := Lib.hid hbwd
            have HSB : Hid (∀ w, Keep (fun _ => False) wz w → (convert 33 9 (.slice a9 n9 c9)).run Try.prog w = .ok (.string ⟨bs.toArray⟩) w) := Lib.hid (fun w k => seen_string HN.out (by rw [HN.out] at hseen ⊢; exact Seen.keep hseen k (fun _ _ _ h => h)))
            clear hseen hown ho hl hbwd
            go_wp2_with fail
            refine HRW.out.mono ?_
            rintro e wy hr
            have HRK := Lib.hid hr.keep
            obtain ⟨q, hq⟩ : ∃ q, q = whole 87 cWorld bs := ⟨_, rfl⟩
            rw [← hq] at hr HBW
            clear hq HRW
            have HK9 : Hid (Keep (fun _ => False) w3 wy) := Lib.hid ((HKR.out.trans HO.out.keep (fun _ h => h.elim)).trans HRK.out (fun _ h => h.elim))
            cases q with
            | none =>
              have he := hr.none rfl
              clear hr
              subst he
              have HIS := Lib.hid (fun (w : World) => is_same_q w)
              go_wp2_with fail
              go_quiet (first | (go_at_call 18; refine Calls.quiet_of_same (HIS.out _)))
              go_wp2_with fail
              go_roundw
              case rel =>
                (repeat apply Exists.intro)
                exact ⟨1, by omega, rfl, HK9.out.trans (kdrewN wy nq) (fun _ h => h.elim)⟩
              case measure => simp [intOf]
            | some x =>
              obtain ⟨gx, ox, rfl, hx9⟩ := hr.some x rfl
              obtain ⟨hok, hbs⟩ := HBW.out x rfl
              clear hr
              have HX9 := Lib.hid hx9
              have HWA := Lib.hid (fun (w : World) (k : Keep (fun _ => False) wy w) => show Calls Try.prog 8 #[.pointer (some ⟨gx, ox, none⟩)] w (Puts (fun _ => False) w bs) by
                rw [hbs]
                refine world_any (Pb := fun b => b < w.heap.size) (fun _ h => h) ((HX9.out.keep k (fun _ _ _ h => h)).mono (fun _ h _ => h)) hok ?_
                have := HL0.out
                rw [hbs, List.length_cons] at this
                unfold lim; omega)
              clear hx9 hok hbs
              go_wp2_with fail
              go_upto_region 19 with fail
              refine wp_region_z (fun w' => Keep (fun _ => False) wz w') [] (by kernel_rfl) ?_
              have HS3 : Hid ((fun w' => Keep (fun _ => False) wz w') wy.drew) := Lib.hid (HRK.out.trans (Keep.refl (fun _ => False) wy).drew (fun _ h => h.elim))
              refine wpAnyZ_takeD (i := 0) (d := 83) (v := ?_) rfl rfl (by kernel_rfl) (by kernel_rfl) (by kernel_rfl) (fun _ _ _ h => h) (by rfl) ?_ ?_
              rotate_left 1
              · (intro w9; go_simp <;> with_reducible rfl)
              simp only [Act.put, List.setIfInBounds_toArray, List.set_cons_succ, List.set_cons_zero]
              refine wpAnyZ_takeD (i := 1) (d := 84) (v := ?_) rfl rfl (by kernel_rfl) (by kernel_rfl) (by kernel_rfl) (fun _ _ _ h => h) (by rfl) ?_ ?_
              rotate_left 1
              · (intro w9; go_simp <;> with_reducible rfl)
              simp only [Act.put, List.setIfInBounds_toArray, List.set_cons_succ, List.set_cons_zero]
              refine wpAnyZ_takeD (i := 2) (d := 85) (v := ?_) rfl rfl (by kernel_rfl) (by kernel_rfl) (by kernel_rfl) (fun _ _ _ h => h) (by rfl) ?_ ?_
              rotate_left 1
              · (intro w9; go_simp <;> with_reducible rfl)
              simp only [Act.put, List.setIfInBounds_toArray, List.set_cons_succ, List.set_cons_zero]
              refine wpAnyZ_skipD (i := 3) (d := 86) rfl rfl (by kernel_rfl) (by kernel_rfl) (by kernel_rfl) (fun _ _ _ h => h) (by rfl) ?_
              simp only [Act.put, List.setIfInBounds_toArray, List.set_cons_succ, List.set_cons_zero]
              refine wpAnyZ_skipD (i := 4) (d := 87) rfl rfl (by kernel_rfl) (by kernel_rfl) (by kernel_rfl) (fun _ _ _ h => h) (by rfl) ?_
              simp only [Act.put, List.setIfInBounds_toArray, List.set_cons_succ, List.set_cons_zero]
              refine wpAnyZ_skipD (i := 5) (d := 88) rfl rfl (by kernel_rfl) (by kernel_rfl) (by kernel_rfl) (fun _ _ _ h => h) (by rfl) ?_
              simp only [Act.put, List.setIfInBounds_toArray, List.set_cons_succ, List.set_cons_zero]
              refine wpAnyZ_skipD (i := 6) (d := 89) rfl rfl (by kernel_rfl) (by kernel_rfl) (by kernel_rfl) (fun _ _ _ h => h) (by rfl) ?_
              simp only [Act.put, List.setIfInBounds_toArray, List.set_cons_succ, List.set_cons_zero]
              refine wpAnyZ_skipD (i := 7) (d := 90) rfl rfl (by kernel_rfl) (by kernel_rfl) (by kernel_rfl) (fun _ _ _ h => h) (by rfl) ?_
              simp only [Act.put, List.setIfInBounds_toArray, List.set_cons_succ, List.set_cons_zero]
              refine wpAnyZ_skipD (i := 8) (d := 91) rfl rfl (by kernel_rfl) (by kernel_rfl) (by kernel_rfl) (fun _ _ _ h => h) (by rfl) ?_
              simp only [Act.put, List.setIfInBounds_toArray, List.set_cons_succ, List.set_cons_zero]
              refine wpAnyZ_skipD (i := 9) (d := 92) rfl rfl (by kernel_rfl) (by kernel_rfl) (by kernel_rfl) (fun _ _ _ h => h) (by rfl) ?_
              simp only [Act.put, List.setIfInBounds_toArray, List.set_cons_succ, List.set_cons_zero]
              refine wpAnyZ_takeD (i := 10) (d := 93) (v := ?_) rfl rfl (by kernel_rfl) (by kernel_rfl) (by kernel_rfl) (fun _ _ _ h => h) (by rfl) ?_ ?_
              rotate_left 1
              · (intro w9; go_simp <;> with_reducible rfl)
              simp only [Act.put, List.setIfInBounds_toArray, List.set_cons_succ, List.set_cons_zero]
              refine wpAnyZ_takeD (i := 11) (d := 94) (v := ?_) rfl rfl (by kernel_rfl) (by kernel_rfl) (by kernel_rfl) (fun _ _ _ h => h) (by rfl) ?_ ?_
              rotate_left 1
              · (intro w9; go_simp <;> with_reducible rfl)
              simp only [Act.put, List.setIfInBounds_toArray, List.set_cons_succ, List.set_cons_zero]
              refine wpAnyZ_takeD (i := 12) (d := 95) (v := ?_) rfl rfl (by kernel_rfl) (by kernel_rfl) (by kernel_rfl) (fun _ _ _ h => h) (by rfl) ?_ ?_
              rotate_left 1
              · (intro w9; go_simp <;> with_reducible rfl)
              simp only [Act.put, List.setIfInBounds_toArray, List.set_cons_succ, List.set_cons_zero]
              refine wpAnyZ_takeD (i := 13) (d := 96) (v := ?_) rfl rfl (by kernel_rfl) (by kernel_rfl) (by kernel_rfl) (fun _ _ _ h => h) (by rfl) ?_ ?_
              rotate_left 1
              · (intro w9; go_simp <;> with_reducible rfl)
              simp only [Act.put, List.setIfInBounds_toArray, List.set_cons_succ, List.set_cons_zero]
              refine wpAnyZ_takeD (i := 14) (d := 97) (v := ?_) rfl rfl (by kernel_rfl) (by kernel_rfl) (by kernel_rfl) (fun _ _ _ h => h) (by rfl) ?_ ?_
              rotate_left 1
              · (intro w9; go_simp <;> with_reducible rfl)
              simp only [Act.put, List.setIfInBounds_toArray, List.set_cons_succ, List.set_cons_zero]
              refine wpAnyZ_takeD (i := 15) (d := 98) (v := ?_) rfl rfl (by kernel_rfl) (by kernel_rfl) (by kernel_rfl) (fun _ _ _ h => h) (by rfl) ?_ ?_
              rotate_left 1
              · (intro w9; go_simp <;> with_reducible rfl)
              simp only [Act.put, List.setIfInBounds_toArray, List.set_cons_succ, List.set_cons_zero]
              refine wpAnyZ_takeD (i := 18) (d := 101) (v := ?_) rfl rfl (by kernel_rfl) (by kernel_rfl) (by kernel_rfl) (fun _ _ _ h => h) (by rfl) ?_ ?_
              rotate_left 1
              · (intro w9; go_simp <;> with_reducible rfl)
              simp only [Act.put, List.setIfInBounds_toArray, List.set_cons_succ, List.set_cons_zero]
              refine wpAnyZ_loadD (i := 19) (d := 102) (v := ?_) rfl rfl (by kernel_rfl) (by kernel_rfl) (by kernel_rfl) (by kernel_rfl) (fun _ _ _ h => h) HS3.out (by rfl) ?_ ?_
              rotate_left 1
              · (intro w9 hS9; have hs9 := HSB.out w9 hS9; go_simp <;> with_reducible rfl)
              simp only [Act.put, List.setIfInBounds_toArray, List.set_cons_succ, List.set_cons_zero]
              refine wpAnyZ_one (i := 16) rfl (by kernel_rfl) (by rfl) ?_
              intro K9 hK9
              go_simp
              go_at_call 8
              (with_reducible refine (HWA.out _ ((Keep.refl (fun _ => False) wy).drew)).mono ?_)
              rintro e w10 ⟨a10, n10, c10, rfl, h10⟩
              have HN10 : Hid (n10 = bs.length) := Lib.hid (by obtain ⟨_, _, e, _⟩ := h10.row.slice; simp only [Value.slice.injEq] at e; exact e.2.1)
              have hs2 := seen_string HN10.out (by have := h10.row.seen; rw [HN10.out] at this ⊢; exact this)
              have HK10 := Lib.hid ((HK9.out.trans (Keep.refl (fun _ => False) wy).drew (fun _ h => h.elim)).trans h10.keep (fun _ h => h.elim))
              have HS10 : Hid (Keep (fun _ => False) wz w10) := Lib.hid ((HRK.out.trans (Keep.refl (fun _ => False) wy).drew (fun _ h => h.elim)).trans h10.keep (fun _ h => h.elim))
              clear h10
              refine hK9.out _ _ (fun _ _ => HS10.out) ?_
              clear hK9 K9
              refine wpAnyZ_one (i := 17) rfl (by kernel_rfl) (by rfl) ?_
              intro K9 hK9
              go_simp
              refine hK9.out _ _ (fun _ h => h) ?_
              clear hK9 K9
              refine wpAnyZ_takeD (i := 20) (d := 103) (v := ?_) rfl rfl (by kernel_rfl) (by kernel_rfl) (by kernel_rfl) (fun _ _ _ h => h) (by rfl) ?_ ?_
              rotate_left 1
              · (intro w9; go_simp <;> with_reducible rfl)
              simp only [Act.put, List.setIfInBounds_toArray, List.set_cons_succ, List.set_cons_zero]
              refine wpAnyZ_takeD (i := 21) (d := 104) (v := ?_) rfl rfl (by kernel_rfl) (by kernel_rfl) (by kernel_rfl) (fun _ _ _ h => h) (by rfl) ?_ ?_
              rotate_left 1
              · (intro w9; go_simp <;> with_reducible rfl)
              simp only [Act.put, List.setIfInBounds_toArray, List.set_cons_succ, List.set_cons_zero]
              refine wpAnyZ_takeD (i := 22) (d := 105) (v := ?_) rfl rfl (by kernel_rfl) (by kernel_rfl) (by kernel_rfl) (fun _ _ _ h => h) (by rfl) ?_ ?_
              rotate_left 1
              · (intro w9; go_simp <;> with_reducible rfl)
              simp only [Act.put, List.setIfInBounds_toArray, List.set_cons_succ, List.set_cons_zero]
              refine wpAnyZ_done (by kernel_rfl) ?_ _
              go_wp2_with fail
              go_roundw
              case rel =>
                (repeat apply Exists.intro)
                exact ⟨1, by omega, rfl, HK10.out⟩
              case measure => simp [intOf]
          · have HRW := Lib.hid (readEvent_any hseen hown)
            have hbwd := whole_bwd 69 cEvent bs
            have HBW := Lib.hid hbwd
            have HSB : Hid (∀ w, Keep (fun _ => False) wz w → (convert 33 9 (.slice a9 n9 c9)).run Try.prog w = .ok (.string ⟨bs.toArray⟩) w) := Lib.hid (fun w k => seen_string HN.out (by rw [HN.out] at hseen ⊢; exact Seen.keep hseen k (fun _ _ _ h => h)))
            clear hseen hown ho hl hbwd
            go_wp2_with fail
            refine HRW.out.mono ?_
            rintro e wy hr
            have HRK := Lib.hid hr.keep
            obtain ⟨q, hq⟩ : ∃ q, q = whole 69 cEvent bs := ⟨_, rfl⟩
            rw [← hq] at hr HBW
            clear hq HRW
            have HK9 : Hid (Keep (fun _ => False) w3 wy) := Lib.hid ((HKR.out.trans HO.out.keep (fun _ h => h.elim)).trans HRK.out (fun _ h => h.elim))
            cases q with
            | none =>
              have he := hr.none rfl
              clear hr
              subst he
              have HIS := Lib.hid (fun (w : World) => is_same_q w)
              have HE9 := Lib.hid (heap_alloc_new wy (.cells #[.int .i64 0, .string ⟨#[]⟩, .string ⟨#[]⟩, .slice none 0 0] 44))
              have HKA := Lib.hid (HK9.out.trans ((Keep.refl (fun _ => False) wy).alloc (.cells #[.int .i64 0, .string ⟨#[]⟩, .string ⟨#[]⟩, .slice none 0 0] 44)) (fun _ h => h.elim))
              have p0 : _ = some (Value.int .i64 0) := (cell_of_row _ _ 0 _ _ _ HE9.out).trans rfl
              have p1 : _ = some (Value.string ⟨#[]⟩) := (cell_of_row _ _ 1 _ _ _ HE9.out).trans rfl
              go_wp2_with fail
              generalize wy.alloc (.cells #[.int .i64 0, .string ⟨#[]⟩, .string ⟨#[]⟩, .slice none 0 0] 44) = wa at *
              go_quiet (first | (go_at_call 18; refine Calls.quiet_of_same (HIS.out _)))
              go_wp2_with fail
              go_roundw
              case rel =>
                (repeat apply Exists.intro)
                exact ⟨2, by omega, rfl, HKA.out.trans (kdrewN wa nq) (fun _ h => h.elim)⟩
              case measure => simp [intOf]
            | some x =>
              obtain ⟨x0, x1, x2, x3⟩ := x
              obtain ⟨hok, hbs⟩ := HBW.out _ rfl
              obtain ⟨cs9, rfl, zd, hzl, hcs9⟩ := hr.some _ rfl
              obtain ⟨za, zc, rfl, _⟩ := hzl.slice
              have ecs : cs9.toArray = #[.int .i64 x0, .string x1, .string x2, .slice za x3.length zc] := by rw [hcs9]
              rw [ecs]
              clear hr ecs hcs9
              have HZL := Lib.hid hzl
              have HEV0 := Lib.hid (fun (w : World) (k : Keep (fun _ => False) wy w) => show Calls Try.prog 14 #[.agg #[.int .i64 x0, .string x1, .string x2, .slice za x3.length zc]] w (Puts (fun _ => False) w bs) by
                rw [hbs]
                refine event_any (x := (x0, x1, x2, x3)) (cs := [.int .i64 x0, .string x1, .string x2, .slice za x3.length zc]) (Pb := fun b => b < w.heap.size) (fun _ h => h) ⟨_, (HZL.out.keep k (fun _ _ _ h => h)).mono (fun _ h _ => h), rfl⟩ hok ?_
                have := HL0.out
                rw [hbs, List.length_cons] at this
                unfold lim; omega)
              clear hzl hok hbs HZL
              obtain ⟨n3, hn3⟩ : ∃ n, n = x3.length := ⟨_, rfl⟩
              rw [← hn3] at HEV0 ⊢
              clear hn3
              have HE9 := Lib.hid (heap_alloc_new wy (.cells #[.int .i64 x0, .string x1, .string x2, .slice za n3 zc] 44))
              have KA := Lib.hid ((Keep.refl (fun _ => False) wy).alloc (.cells #[.int .i64 x0, .string x1, .string x2, .slice za n3 zc] 44))
              go_wp2_with fail
              generalize wy.alloc (.cells #[.int .i64 x0, .string x1, .string x2, .slice za n3 zc] 44) = wa at *
              generalize wy.heap.size = C9 at *
              have HEV := Lib.hid (fun (w : World) (k : Keep (fun _ => False) wa w) => HEV0.out w (KA.out.trans k (fun _ h => h.elim)))
              have HZA := Lib.hid (HRK.out.trans KA.out (fun _ h => h.elim))
              have HKA := Lib.hid (HK9.out.trans KA.out (fun _ h => h.elim))
              clear HEV0 KA
              go_upto_region 22 with fail
              refine wp_region_z (fun w' => Keep (fun _ => False) wa w') [] (by kernel_rfl) ?_
              have HS3 : Hid ((fun w' => Keep (fun _ => False) wa w') wa.drew) := Lib.hid ((Keep.refl (fun _ => False) wa).drew)
              refine wpAnyZ_takeD (i := 0) (d := 111) (v := ?_) rfl rfl (by kernel_rfl) (by kernel_rfl) (by kernel_rfl) (fun _ _ _ h => h) (by rfl) ?_ ?_
              rotate_left 1
              · (intro w9; go_simp <;> with_reducible rfl)
              simp only [Act.put, List.setIfInBounds_toArray, List.set_cons_succ, List.set_cons_zero]
              refine wpAnyZ_takeD (i := 1) (d := 112) (v := ?_) rfl rfl (by kernel_rfl) (by kernel_rfl) (by kernel_rfl) (fun _ _ _ h => h) (by rfl) ?_ ?_
              rotate_left 1
              · (intro w9; go_simp <;> with_reducible rfl)
              simp only [Act.put, List.setIfInBounds_toArray, List.set_cons_succ, List.set_cons_zero]
              refine wpAnyZ_takeD (i := 2) (d := 113) (v := ?_) rfl rfl (by kernel_rfl) (by kernel_rfl) (by kernel_rfl) (fun _ _ _ h => h) (by rfl) ?_ ?_
              rotate_left 1
              · (intro w9; go_simp <;> with_reducible rfl)
              simp only [Act.put, List.setIfInBounds_toArray, List.set_cons_succ, List.set_cons_zero]
              refine wpAnyZ_skipD (i := 3) (d := 114) rfl rfl (by kernel_rfl) (by kernel_rfl) (by kernel_rfl) (fun _ _ _ h => h) (by rfl) ?_
              simp only [Act.put, List.setIfInBounds_toArray, List.set_cons_succ, List.set_cons_zero]
              refine wpAnyZ_skipD (i := 4) (d := 115) rfl rfl (by kernel_rfl) (by kernel_rfl) (by kernel_rfl) (fun _ _ _ h => h) (by rfl) ?_
              simp only [Act.put, List.setIfInBounds_toArray, List.set_cons_succ, List.set_cons_zero]
              refine wpAnyZ_skipD (i := 5) (d := 116) rfl rfl (by kernel_rfl) (by kernel_rfl) (by kernel_rfl) (fun _ _ _ h => h) (by rfl) ?_
              simp only [Act.put, List.setIfInBounds_toArray, List.set_cons_succ, List.set_cons_zero]
              refine wpAnyZ_skipD (i := 6) (d := 117) rfl rfl (by kernel_rfl) (by kernel_rfl) (by kernel_rfl) (fun _ _ _ h => h) (by rfl) ?_
              simp only [Act.put, List.setIfInBounds_toArray, List.set_cons_succ, List.set_cons_zero]
              refine wpAnyZ_skipD (i := 7) (d := 118) rfl rfl (by kernel_rfl) (by kernel_rfl) (by kernel_rfl) (fun _ _ _ h => h) (by rfl) ?_
              simp only [Act.put, List.setIfInBounds_toArray, List.set_cons_succ, List.set_cons_zero]
              refine wpAnyZ_skipD (i := 8) (d := 119) rfl rfl (by kernel_rfl) (by kernel_rfl) (by kernel_rfl) (fun _ _ _ h => h) (by rfl) ?_
              simp only [Act.put, List.setIfInBounds_toArray, List.set_cons_succ, List.set_cons_zero]
              refine wpAnyZ_skipD (i := 9) (d := 120) rfl rfl (by kernel_rfl) (by kernel_rfl) (by kernel_rfl) (fun _ _ _ h => h) (by rfl) ?_
              simp only [Act.put, List.setIfInBounds_toArray, List.set_cons_succ, List.set_cons_zero]
              refine wpAnyZ_skipD (i := 10) (d := 121) rfl rfl (by kernel_rfl) (by kernel_rfl) (by kernel_rfl) (fun _ _ _ h => h) (by rfl) ?_
              simp only [Act.put, List.setIfInBounds_toArray, List.set_cons_succ, List.set_cons_zero]
              refine wpAnyZ_skipD (i := 11) (d := 122) rfl rfl (by kernel_rfl) (by kernel_rfl) (by kernel_rfl) (fun _ _ _ h => h) (by rfl) ?_
              simp only [Act.put, List.setIfInBounds_toArray, List.set_cons_succ, List.set_cons_zero]
              refine wpAnyZ_skipD (i := 12) (d := 123) rfl rfl (by kernel_rfl) (by kernel_rfl) (by kernel_rfl) (fun _ _ _ h => h) (by rfl) ?_
              simp only [Act.put, List.setIfInBounds_toArray, List.set_cons_succ, List.set_cons_zero]
              refine wpAnyZ_skipD (i := 13) (d := 124) rfl rfl (by kernel_rfl) (by kernel_rfl) (by kernel_rfl) (fun _ _ _ h => h) (by rfl) ?_
              simp only [Act.put, List.setIfInBounds_toArray, List.set_cons_succ, List.set_cons_zero]
              refine wpAnyZ_skipD (i := 14) (d := 125) rfl rfl (by kernel_rfl) (by kernel_rfl) (by kernel_rfl) (fun _ _ _ h => h) (by rfl) ?_
              simp only [Act.put, List.setIfInBounds_toArray, List.set_cons_succ, List.set_cons_zero]
              refine wpAnyZ_skipD (i := 15) (d := 126) rfl rfl (by kernel_rfl) (by kernel_rfl) (by kernel_rfl) (fun _ _ _ h => h) (by rfl) ?_
              simp only [Act.put, List.setIfInBounds_toArray, List.set_cons_succ, List.set_cons_zero]
              refine wpAnyZ_takeD (i := 16) (d := 127) (v := ?_) rfl rfl (by kernel_rfl) (by kernel_rfl) (by kernel_rfl) (fun _ _ _ h => h) (by rfl) ?_ ?_
              rotate_left 1
              · (intro w9; go_simp <;> with_reducible rfl)
              simp only [Act.put, List.setIfInBounds_toArray, List.set_cons_succ, List.set_cons_zero]
              refine wpAnyZ_takeD (i := 17) (d := 128) (v := ?_) rfl rfl (by kernel_rfl) (by kernel_rfl) (by kernel_rfl) (fun _ _ _ h => h) (by rfl) ?_ ?_
              rotate_left 1
              · (intro w9; go_simp <;> with_reducible rfl)
              simp only [Act.put, List.setIfInBounds_toArray, List.set_cons_succ, List.set_cons_zero]
              refine wpAnyZ_takeD (i := 18) (d := 129) (v := ?_) rfl rfl (by kernel_rfl) (by kernel_rfl) (by kernel_rfl) (fun _ _ _ h => h) (by rfl) ?_ ?_
              rotate_left 1
              · (intro w9; go_simp <;> with_reducible rfl)
              simp only [Act.put, List.setIfInBounds_toArray, List.set_cons_succ, List.set_cons_zero]
              refine wpAnyZ_takeD (i := 19) (d := 130) (v := ?_) rfl rfl (by kernel_rfl) (by kernel_rfl) (by kernel_rfl) (fun _ _ _ h => h) (by rfl) ?_ ?_
              rotate_left 1
              · (intro w9; go_simp <;> with_reducible rfl)
              simp only [Act.put, List.setIfInBounds_toArray, List.set_cons_succ, List.set_cons_zero]
              refine wpAnyZ_takeD (i := 20) (d := 131) (v := ?_) rfl rfl (by kernel_rfl) (by kernel_rfl) (by kernel_rfl) (fun _ _ _ h => h) (by rfl) ?_ ?_
              rotate_left 1
              · (intro w9; go_simp <;> with_reducible rfl)
              simp only [Act.put, List.setIfInBounds_toArray, List.set_cons_succ, List.set_cons_zero]
              refine wpAnyZ_loadD (i := 21) (d := 132) (v := ?_) rfl rfl (by kernel_rfl) (by kernel_rfl) (by kernel_rfl) (by kernel_rfl) (fun _ _ _ h => h) HS3.out (by rfl) ?_ ?_
              rotate_left 1
              · (intro w9 hS9; have he9 := (hS9.block _ (lt_of_block HE9.out) (fun h => h)).trans HE9.out; have hs9 := HSB.out w9 (HZA.out.trans hS9 (fun _ h => h.elim)); have p0 : _ = some (Value.int .i64 x0) := (cell_of_row _ _ 0 _ _ _ he9).trans rfl; have p1 : _ = some (Value.string x1) := (cell_of_row _ _ 1 _ _ _ he9).trans rfl; have p2 : _ = some (Value.string x2) := (cell_of_row _ _ 2 _ _ _ he9).trans rfl; have p3 : _ = some (Value.slice za n3 zc) := (cell_of_row _ _ 3 _ _ _ he9).trans rfl; go_simp <;> with_reducible rfl)
              simp only [Act.put, List.setIfInBounds_toArray, List.set_cons_succ, List.set_cons_zero]
              refine wpAnyZ_takeD (i := 24) (d := 135) (v := ?_) rfl rfl (by kernel_rfl) (by kernel_rfl) (by kernel_rfl) (fun _ _ _ h => h) (by rfl) ?_ ?_
              rotate_left 1
              · (intro w9; go_simp <;> with_reducible rfl)
              simp only [Act.put, List.setIfInBounds_toArray, List.set_cons_succ, List.set_cons_zero]
              refine wpAnyZ_loadD (i := 25) (d := 136) (v := ?_) rfl rfl (by kernel_rfl) (by kernel_rfl) (by kernel_rfl) (by kernel_rfl) (fun _ _ _ h => h) HS3.out (by rfl) ?_ ?_
              rotate_left 1
              · (intro w9 hS9; have he9 := (hS9.block _ (lt_of_block HE9.out) (fun h => h)).trans HE9.out; have hs9 := HSB.out w9 (HZA.out.trans hS9 (fun _ h => h.elim)); have p0 : _ = some (Value.int .i64 x0) := (cell_of_row _ _ 0 _ _ _ he9).trans rfl; have p1 : _ = some (Value.string x1) := (cell_of_row _ _ 1 _ _ _ he9).trans rfl; have p2 : _ = some (Value.string x2) := (cell_of_row _ _ 2 _ _ _ he9).trans rfl; have p3 : _ = some (Value.slice za n3 zc) := (cell_of_row _ _ 3 _ _ _ he9).trans rfl; go_simp <;> with_reducible rfl)
              simp only [Act.put, List.setIfInBounds_toArray, List.set_cons_succ, List.set_cons_zero]
              refine wpAnyZ_one (i := 22) rfl (by kernel_rfl) (by rfl) ?_
              intro K9 hK9
              go_simp
              go_at_call 14
              (with_reducible refine (HEV.out _ ((Keep.refl (fun _ => False) wa).drew)).mono ?_)
              rintro e w10 ⟨a10, n10, c10, rfl, h10⟩
              have HN10 : Hid (n10 = bs.length) := Lib.hid (by obtain ⟨_, _, e, _⟩ := h10.row.slice; simp only [Value.slice.injEq] at e; exact e.2.1)
              have hs2 := seen_string HN10.out (by have := h10.row.seen; rw [HN10.out] at this ⊢; exact this)
              have HS10 : Hid (Keep (fun _ => False) wa w10) := Lib.hid (((Keep.refl (fun _ => False) wa).drew).trans h10.keep (fun _ h => h.elim))
              clear h10
              refine hK9.out _ _ (fun _ _ => HS10.out) ?_
              clear hK9 K9
              refine wpAnyZ_one (i := 23) rfl (by kernel_rfl) (by rfl) ?_
              intro K9 hK9
              go_simp
              refine hK9.out _ _ (fun _ h => h) ?_
              clear hK9 K9
              refine wpAnyZ_takeD (i := 26) (d := 137) (v := ?_) rfl rfl (by kernel_rfl) (by kernel_rfl) (by kernel_rfl) (fun _ _ _ h => h) (by rfl) ?_ ?_
              rotate_left 1
              · (intro w9; go_simp <;> with_reducible rfl)
              simp only [Act.put, List.setIfInBounds_toArray, List.set_cons_succ, List.set_cons_zero]
              refine wpAnyZ_takeD (i := 27) (d := 138) (v := ?_) rfl rfl (by kernel_rfl) (by kernel_rfl) (by kernel_rfl) (fun _ _ _ h => h) (by rfl) ?_ ?_
              rotate_left 1
              · (intro w9; go_simp <;> with_reducible rfl)
              simp only [Act.put, List.setIfInBounds_toArray, List.set_cons_succ, List.set_cons_zero]
              refine wpAnyZ_takeD (i := 28) (d := 139) (v := ?_) rfl rfl (by kernel_rfl) (by kernel_rfl) (by kernel_rfl) (fun _ _ _ h => h) (by rfl) ?_ ?_
              rotate_left 1
              · (intro w9; go_simp <;> with_reducible rfl)
              simp only [Act.put, List.setIfInBounds_toArray, List.set_cons_succ, List.set_cons_zero]
              refine wpAnyZ_done (by kernel_rfl) ?_ _
              go_wp2_with fail
              go_roundw
              case rel =>
                (repeat apply Exists.intro)
                exact ⟨2, by omega, rfl, HKA.out.trans HS10.out (fun _ h => h.elim)⟩
              case measure => simp [intOf]
      · obtain rfl : k = 2 := by omega
        go_wp2_with fail
        go_ret
        exact ⟨rfl, K3.out.trans HKR.out (fun _ h => h.elim)⟩

end Go.Proofs.Ytmibepjfbapbdaa.Cd
