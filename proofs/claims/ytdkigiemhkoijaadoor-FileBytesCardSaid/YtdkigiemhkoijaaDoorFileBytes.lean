/- FileBytes answers true, for every input: a file's bytes make it again. -/
import Derived.Test.YtdkigiemhkoijaaDoorPgs
import Derived.Deep.CutBlock
import Derived.Deep.CutRange
import Derived.Test.YtdkigiemhkoijaaDoorBegun5
import Derived.Test.YtdkigiemhkoijaaDoorFbPre
import Derived.Test.YtdkigiemhkoijaaDoorFull5
namespace Go.Proofs.YtdkigiemhkoijaaDoor.Ino
open Go.RowKit Go.Maps Go.Proofs.YtdkigiemhkoijaaDoor
set_option maxRecDepth 100000

attribute [-go_sem] Go.run_min_int2

structure FbR (w : World) (p s : Nat) (n : Nat) (iv : Value) (wr : World) : Prop where
  ex : ∃ i : Nat, i ≤ 12 ∧ iv = .int .i64 (i : Int) ∧ Keep (fun _ => False) w wr ∧ ∃ F S size T, Fl wr F p s S size T ∧ Fpg S T size ∧ S.most = 250 ∧ S.nxt ≤ 203 * i ∧ ∀ x, F x → w.heap.size ≤ x

structure FbY (w6 : World) (iv : Value) (wr : World) : Prop where
  ex : ∃ i : Nat, i ≤ 12 ∧ iv = .int .i64 (i : Int) ∧ Keep (fun _ => False) w6 wr

structure FbX (w : World) (p s : Nat) (wr : World) : Prop where
  ex : ∃ F S size T, Keep (fun _ => False) w wr ∧ Fl wr F p s S size T ∧ Fpg S T size ∧ S.most = 250 ∧ S.nxt ≤ 203 * 12 ∧ ∀ x, F x → w.heap.size ≤ x

/-- A Write of a law that has room for all. -/
theorem fb_write {w : World} {F : Nat → Prop} {p s : Nat} {S : Sto} {size : Nat} {T : List Nat} (h : Fl w F p s S size T) (hp : Fpg S T size) (hm : S.most = 250) (hx : S.nxt ≤ 203 * 12) (at_ : Nat) {v : Value} {b : List UInt8} (hb : Seen w 1 v b.length (bcells b)) (hl : b.length ≤ 50000) (hb0 : 0 < b.length) (ha : at_ + b.length ≤ 102400) :
    Calls Tryd.prog 6 #[.pointer (some ⟨p, 0, none⟩), .int .i64 (at_ : Int), v] w fun e w' => e = .returned .nilIface ∧ (∃ F' S' size' T', Fl w' F' p s S' size' T' ∧ Fpg S' T' size' ∧ S'.most = 250 ∧ S'.nxt ≤ S.nxt + 203 ∧ ∀ x, F' x → F x ∨ w.heap.size ≤ x) ∧ Keep (fun x => F x ∨ x = p) w w' := by
  have hT := h.ok.len
  have hcn := cntB_grow (at_ / 512) ((at_ + b.length + 511) / 512) T S.nxt 203 hT (by omega)
  have hle := cntB_le (growTo (at_ / 512) ((at_ + b.length + 511) / 512) T S.nxt 203).1 203
  have hct := h.ok.count
  refine (fl_write h (by omega) at_ hb hl hb0 ha (by unfold fitsW; omega)).mono ?_
  rintro e w' ⟨rfl, F', S', T', h1, h2, h3, h4, h5, h6, h7, ⟨G, g1, g2, g3⟩, h8, h9, h10⟩
  exact ⟨rfl, ⟨F', S', _, T', h1, by rw [g3]; exact hp.write h.ok (by omega) at_ b ha g1 h7, by rw [h2, hm], by omega, h10⟩, h9⟩

set_option maxHeartbeats 4000000 in
theorem fileBytes_any {w : World} (hh : HeadsAt w) {v : Value} {l : List Int} (hv : Seen w 1 v l.length (icells l)) (hlz : ∀ n ∈ l, -9223372036854775808 ≤ n ∧ n ≤ 9223372036854775807) : Calls Tryd.prog 3 #[v] w fun e w' => e = .returned (.bool true) ∧ Keep (fun _ => False) w w' := by
  have hmm := @run_makeMap Tryd.prog
  have HV := Lib.hid hv; have HH := Lib.hid hh; have HZ := Lib.hid hlz
  obtain ⟨_, ap, cp, rfl, hlc, hcm, _⟩ := hv
  unfold maxLen at hcm
  clear hh hlz
  go_enter Tryd.func3, Tryd.ntmps3
  go_wp2_with (go_at_call 4; refine begun5_any.mono ?_; rintro e w1 ⟨rfl, k1⟩; have K1 := Lib.hid k1; clear k1)
  have HS := Lib.hid (fresh_sto w1 250 250 rfl (by omega))
  have K2 : Hid (Keep (fun _ => False) w1 ((w1.alloc (.map #[] 0)).alloc (.cells #[.map (some w1.heap.size), .int .i64 250, .int .i64 0, .bool false] 27))) := Lib.hid (((Keep.refl _ w1).alloc _).alloc _)
  refine (fl_new HS.out rfl).mono ?_
  have S2 : Hid (((w1.alloc (.map #[] 0)).alloc (.cells #[.map (some w1.heap.size), .int .i64 250, .int .i64 0, .bool false] 27)).heap.size = w1.heap.size + 2) := Lib.hid (by simp)
  generalize (w1.alloc (.map #[] 0)).alloc (.cells #[.map (some w1.heap.size), .int .i64 250, .int .i64 0, .bool false] 27) = w2 at *
  rintro e w3 ⟨rfl, h3, k3⟩
  have H3 := Lib.hid h3; have K3 := Lib.hid k3
  clear h3 k3 hmm
  have HW3 : Hid (Keep (fun _ => False) w w3) := Lib.hid ((K1.out.trans K2.out (fun _ h => h.elim)).trans K3.out (fun _ h => h.elim))
  have HP : Hid (w.heap.size ≤ w2.heap.size ∧ w.heap.size ≤ w1.heap.size) := Lib.hid (by have := K1.out.size; have := S2.out; omega)
  obtain ⟨p, hp⟩ : ∃ p, p = w2.heap.size := ⟨_, rfl⟩
  obtain ⟨s, hs⟩ : ∃ s, s = w1.heap.size + 1 := ⟨_, rfl⟩
  rw [← hp] at H3 HP ⊢
  rw [← hs] at H3 ⊢
  have HR0 : Hid (FbR w p s l.length (.int .i64 0) w3) := Lib.hid ⟨0, by omega, rfl, HW3.out, _, _, _, _, H3.out, fpg_fresh _, rfl, by simp [Sto.made], fun x hx => by have := HP.out; rcases hx with e | e <;> omega⟩
  clear hp hs H3 K1 K2 K3 S2 HS HW3
  go_upto_block 0 with (fail)
  go_cut [6] from 23 to 56 (fun _ wx => FbX w p s wx)
  case first =>
    go_wp2_with fail
    go_loopw [6] (fun iv wr => FbR w p s l.length iv wr) (fun iv _ => 12 - (intOf iv).toNat)
    case atStart => exact HR0.out
    case round =>
      obtain ⟨i, hi, rfl, hK, F, S, size, T, hF, hPg, hm, hnx, hFx⟩ := hrel.ex
      have HK := Lib.hid hK; have HF := Lib.hid hF; have HPG := Lib.hid hPg; have HFX := Lib.hid hFx; have HNM := Lib.hid (And.intro hm hnx)
      clear hK hF hPg hFx hm hnx hrel HR0
      by_cases hlt : i < l.length ∧ i < 12
      · obtain ⟨t1, t2⟩ := hlt
        have hd1 : decide ((i : Int) < (l.length : Int)) = true := by rw [decide_eq_true_eq]; omega
        have hd2 : decide ((i : Int) < 12) = true := by rw [decide_eq_true_eq]; omega
        have hd3 : decide (i < l.length) = true := by rw [decide_eq_true_eq]; omega
        have hd4 : decide (i < 12) = true := by rw [decide_eq_true_eq]; omega
        obtain ⟨_, _, _, hv2, _, _, hc2⟩ := HV.out
        simp only [Value.slice.injEq] at hv2
        obtain ⟨rfl, _, rfl⟩ := hv2
        obtain ⟨ga, oa, rfl, hga, hca⟩ := hc2.resolve_left (by omega)
        obtain ⟨z, hz⟩ : ∃ z, z = l[i] := ⟨_, rfl⟩
        have hzb : -9223372036854775808 ≤ z ∧ z ≤ 9223372036854775807 := by rw [hz]; exact HZ.out _ (List.getElem_mem t1)
        have c1 : wr.cell? ⟨ga, oa + i, none⟩ = some (.int .i64 z) := (HK.out.cell hga (fun h => h) (oa + i)).trans (hca i _ (by simp [icells, List.getElem?_eq_getElem t1, hz]))
        clear hc2 hca hz
        by_cases hin : 0 ≤ z ∧ z < 200
        · obtain ⟨q, hq⟩ : ∃ q : Nat, z = (q : Int) := ⟨z.toNat, by omega⟩
          have hq2 : q < 200 := by omega
          have dz1 : decide (z < 0) = false := by rw [decide_eq_false_iff_not]; omega
          have dz2 : decide (200 ≤ z) = false := by rw [decide_eq_false_iff_not]; omega
          obtain ⟨at_, hat⟩ : ∃ at_ : Nat, at_ = q * 512 := ⟨_, rfl⟩
          have hat2 : z * 512 = (at_ : Int) := by omega
          have HAT := Lib.hid hat
          clear hat
          have hwi : ((i : Int) + 1) % 256 = ((i + 1 : Nat) : Int) := by omega
          have hbb : (#[Value.int .u8 ((i : Int) + 1), Value.int .u8 9] : Array Value).toList = bcells [UInt8.ofNat (i + 1), 9] := by
            have e1 : (UInt8.ofNat (i + 1)).toNat = i + 1 := by rw [UInt8.toNat_ofNat']; omega
            simp [bcells]
            omega
          have hsl := seen_lit (w := wr) (size := 1) (t := 5) (f := (0, 0)) #[Value.int .u8 ((i : Int) + 1), Value.int .u8 9] wr.heap.size 2 2 rfl rfl (by omega) (by simp [maxLen])
          rw [hbb] at hsl
          have HSL := Lib.hid hsl
          have HK5 := Lib.hid (HK.out.alloc (.cells #[Value.int .u8 ((i : Int) + 1), Value.int .u8 9] 5))
          have HF5 := Lib.hid (HF.out.keep0 ((Keep.refl _ wr).alloc (.cells #[Value.int .u8 ((i : Int) + 1), Value.int .u8 9] 5)))
          have HSZ := Lib.hid HK.out.size
          clear hsl hbb
          go_wp2_with fail
          rw [show ((q : Int) * 512) = (at_ : Int) by have := HAT.out; omega]
          refine (fb_write (b := [UInt8.ofNat (i + 1), 9]) HF5.out HPG.out HNM.out.1 (by have := HNM.out.2; omega) at_ HSL.out (by simp) (by simp) (by have := HAT.out; simp only [List.length_cons, List.length_nil]; omega)).mono ?_
          rintro e w5 ⟨rfl, ⟨F5, S5, size5, T5, h5, p5, m5, n5, f5⟩, k5⟩
          have H5 := Lib.hid h5; have P5 := Lib.hid p5; have M5 := Lib.hid (And.intro m5 (And.intro n5 (And.intro f5 k5)))
          clear h5 p5 m5 n5 f5 k5
          go_wp2_with fail
          go_roundw
          case rel => exact ⟨i + 1, by omega, by go_num, HK5.out.trans M5.out.2.2.2 (fun x hx => .inr (by rcases hx with e | e; exact HFX.out x e; rw [e]; exact HP.out.1)), F5, S5, size5, T5, H5.out, P5.out, M5.out.1, by have := M5.out.2.1; have := HNM.out.2; omega, fun x hx => by
            rcases M5.out.2.2.1 x hx with e | e
            · exact HFX.out x e
            · have := HSZ.out; simp at e; omega⟩
          case measure => simp [intOf]; omega
        · have dz : z < 0 ∨ 200 ≤ z := by omega
          rcases dz with dz | dz
          · have dz1 : decide (z < 0) = true := by rw [decide_eq_true_eq]; omega
            go_wp2_with fail
            go_roundw
            case rel => exact ⟨i + 1, by omega, by go_num, HK.out, F, S, size, T, HF.out, HPG.out, HNM.out.1, by have := HNM.out.2; omega, HFX.out⟩
            case measure => simp [intOf]; omega
          · have dz1 : decide (z < 0) = false := by rw [decide_eq_false_iff_not]; omega
            have dz2 : decide (200 ≤ z) = true := by rw [decide_eq_true_eq]; omega
            go_wp2_with fail
            go_roundw
            case rel => exact ⟨i + 1, by omega, by go_num, HK.out, F, S, size, T, HF.out, HPG.out, HNM.out.1, by have := HNM.out.2; omega, HFX.out⟩
            case measure => simp [intOf]; omega
      · have HX : Hid (FbX w p s wr) := Lib.hid ⟨F, S, size, T, HK.out, HF.out, HPG.out, HNM.out.1, by have := HNM.out.2; omega, HFX.out⟩
        by_cases t1 : i < l.length
        · have hd1 : decide ((i : Int) < (l.length : Int)) = true := by rw [decide_eq_true_eq]; omega
          have hd3 : decide (i < l.length) = true := by rw [decide_eq_true_eq]; omega
          have hd2 : decide ((i : Int) < 12) = false := by rw [decide_eq_false_iff_not]; omega
          clear hlt
          go_wp2_with fail
          go_meet
          exact HX.out
        · have hd1 : decide ((i : Int) < (l.length : Int)) = false := by rw [decide_eq_false_iff_not]; omega
          have hd3 : decide (i < l.length) = false := by rw [decide_eq_false_iff_not]; omega
          clear hlt
          go_wp2_with fail
          go_meet
          exact HX.out
  case rest =>
    obtain ⟨F, S, size, T, hK, hF, hPg, hm, hnx, hFx⟩ := hcut.ex
    have HK := Lib.hid hK; have HF := Lib.hid hF; have HPG := Lib.hid hPg; have HFX := Lib.hid hFx; have HNM := Lib.hid (And.intro hm hnx)
    clear hK hF hPg hFx hm hnx hcut HR0
    have HBY := Lib.hid (bytes_any HF.out.file (HH.out.keep HK.out (fun h => h)) HF.out.top)
    have HLD := Lib.hid (fun (w5 : World) (k5 : Keep (fun _ => False) wc w5) (b : Nat) (D : DataW Unit) (hs : IsSto w5 F s b D S) (v : Value) (hv : Row w5 5 1 v 64 (bcells (bytesL size T))) =>
      load_any hs ((HH.out.keep HK.out (fun h => h)).keep k5 (fun h => h)) HF.out.top HF.out.ok.len HF.out.ok.inj (fun x hx => by have := HF.out.ok.mem x hx; have := HNM.out.2; omega) (HPG.out.first HF.out.ok) HF.out.ok.held HPG.out.pages hv)
    obtain ⟨b, D, hsto⟩ := HF.out.file.sto
    have HST := Lib.hid hsto
    clear hsto
    go_wp2_with fail
    refine HBY.out.mono ?_
    rintro e w5 ⟨v5, rfl, r5, k5⟩
    have R5 := Lib.hid r5; have K5 := Lib.hid k5
    clear r5 k5
    go_wp2_with fail
    refine (HLD.out w5 K5.out b D (HST.out.keep0 K5.out) v5 R5.out).mono ?_
    rintro e w6 ⟨rfl, h6, k6⟩
    have H6 := Lib.hid h6
    have K6 := Lib.hid (K5.out.trans k6 (fun _ h => h.elim))
    have HF6 := Lib.hid (HF.out.keep0 K6.out)
    clear h6 k6 R5
    generalize w5.heap.size = g at *
    have HW6 : Hid (Keep (fun _ => False) w w6) := Lib.hid (HK.out.trans K6.out (fun _ h => h.elim))
    have HG6 : Hid (Fl w6 F g s S size T) := Lib.hid ⟨H6.out, HF6.out.ok, HF6.out.top⟩
    clear HBY HLD HST K5
    go_upto_region 13 with (fail)
    go_cut [89] from 65 to 89 (fun b wx => b = .bool false ∧ Keep (fun _ => False) w6 wx)
    case first =>
      as_aux_lemma =>
        have HYF := Lib.hid (fun (w7 : World) (k7 : Keep (fun _ => False) w6 w7) => bytes_any (HF6.out.file.keep0 k7) ((HH.out.keep HW6.out (fun h => h)).keep k7 (fun h => h)) HF6.out.top)
        have HYG := Lib.hid (fun (w7 : World) (k7 : Keep (fun _ => False) w6 w7) => bytes_any (H6.out.keep0 k7) ((HH.out.keep HW6.out (fun h => h)).keep k7 (fun h => h)) HF6.out.top)
        have HSF := Lib.hid (fun (w7 : World) (k7 : Keep (fun _ => False) w6 w7) => size_any (HF6.out.file.keep0 k7))
        have HSG := Lib.hid (fun (w7 : World) (k7 : Keep (fun _ => False) w6 w7) => size_any (H6.out.keep0 k7))
        have HBF := Lib.hid (fun (w7 : World) (k7 : Keep (fun _ => False) w6 w7) => blocks_any (HF6.out.file.keep0 k7))
        have HBG := Lib.hid (fun (w7 : World) (k7 : Keep (fun _ => False) w6 w7) => blocks_any (H6.out.keep0 k7))
        have HBL : Hid ((bytesL size T).length = 64) := Lib.hid (by simp [bytesL, frontL_length])
        generalize bytesL size T = BL at *
        generalize cntB T 203 = CB at *
        clear HV HZ
        go_region_with (first
          | (go_at_call 9; (first | ((with_reducible refine (HSG.out _ ((Keep.refl (fun _ => False) w6).drew)).mono ?_); rintro e w7 ⟨rfl, rfl⟩) | ((with_reducible refine (HSF.out _ ((Keep.refl (fun _ => False) w6).drew)).mono ?_); rintro e w7 ⟨rfl, rfl⟩)))
          | (go_at_call 10; (first | ((with_reducible refine (HBG.out _ ((Keep.refl (fun _ => False) w6).drew)).mono ?_); rintro e w7 ⟨rfl, rfl⟩) | ((with_reducible refine (HBF.out _ ((Keep.refl (fun _ => False) w6).drew)).mono ?_); rintro e w7 ⟨rfl, rfl⟩)))
          | (go_at_call 8; (with_reducible refine (HYG.out _ ((Keep.refl (fun _ => False) w6).drew)).mono ?_); rintro e w7 ⟨v7, rfl, r7, k7⟩; have K7 := Lib.hid (((Keep.refl (fun _ => False) w6).drew).trans k7 (fun _ h => h.elim) : Keep (fun _ => False) w6 w7); have R7 := Lib.hid r7; have q7 := str_row r7 HBL.out; clear k7 r7)
          | (go_at_call 8; (with_reducible refine (HYF.out _ K7.out).mono ?_); rintro e w8 ⟨v8, rfl, r8, k8⟩; have K8 := Lib.hid (K7.out.trans k8 (fun _ h => h.elim)); have q8 := str_row r8 HBL.out; have q87 := str_row (R7.out.keep k8 (fun _ _ h => h)) HBL.out; clear k8 r8))
        all_goals
          first
            | (go_wp2_with fail; go_meet; exact ⟨rfl, K8.out⟩)
            | (go_simp; go_wp2_with fail; go_meet; exact ⟨rfl, K8.out⟩)
    case rest =>
      obtain ⟨rfl, hk7⟩ := hcut
      have HK7 := Lib.hid hk7
      clear hk7
      have HFR := Lib.hid (fun (a n m : Nat) (hm : min n (size - a) = m) (w8 : World) (k8 : Keep (fun _ => False) w6 w8) => fl_read (HF6.out.keep0 k8) a n m hm)
      have HGR := Lib.hid (fun (a n m : Nat) (hm : min n (size - a) = m) (w8 : World) (k8 : Keep (fun _ => False) w6 w8) => fl_read (HG6.out.keep0 k8) a n m hm)
      have HLL := Lib.hid (fun (w8 : World) (k8 : Keep (fun _ => False) w6 w8) (ad : Option Addr) (cap : Nat) => load_len (HG6.out.keep0 k8).file.sto.choose_spec.choose_spec ad 65 cap (by omega))
      obtain ⟨i0, hi0, hz0, hz1, hz2⟩ := info_parts Tryd.infoB
      go_wp2_with fail
      go_loopw [9, 10, 11, 12, 13] (fun iv _ _ _ _ wr => FbY w6 iv wr) (fun iv _ _ _ _ _ => 12 - (intOf iv).toNat)
      case atStart => exact ⟨0, by omega, rfl, HK7.out⟩
      case round =>
        obtain ⟨i, hi, rfl, hKr⟩ := hrel.ex
        have HKR := Lib.hid hKr
        clear hKr hrel
        by_cases hlt : i < l.length ∧ i < 12
        · obtain ⟨t1, t2⟩ := hlt
          have hd1 : decide ((i : Int) < (l.length : Int)) = true := by rw [decide_eq_true_eq]; omega
          have hd2 : decide ((i : Int) < 12) = true := by rw [decide_eq_true_eq]; omega
          have hd3 : decide (i < l.length) = true := by rw [decide_eq_true_eq]; omega
          have hd4 : decide (i < 12) = true := by rw [decide_eq_true_eq]; omega
          obtain ⟨_, _, _, hv2, _, _, hc2⟩ := HV.out
          simp only [Value.slice.injEq] at hv2
          obtain ⟨rfl, _, rfl⟩ := hv2
          obtain ⟨ga, oa, rfl, hga, hca⟩ := hc2.resolve_left (by omega)
          obtain ⟨z, hz⟩ : ∃ z, z = l[i] := ⟨_, rfl⟩
          have hzb : -9223372036854775808 ≤ z ∧ z ≤ 9223372036854775807 := by rw [hz]; exact HZ.out _ (List.getElem_mem t1)
          have hlz : (icells l)[i]? = some (.int .i64 z) := by simp [icells, List.getElem?_eq_getElem t1, hz]
          have HC : Hid (∀ w8, Keep (fun _ => False) w6 w8 → w8.cell? ⟨ga, oa + i, none⟩ = some (.int .i64 z)) := Lib.hid (fun w8 k8 => ((HW6.out.trans k8 (fun _ h => h.elim)).cell hga (fun h => h) (oa + i)).trans (hca i _ hlz))
          have c1 := HC.out wr HKR.out
          clear hc2 hca hz hlz
          by_cases hin : 0 ≤ z ∧ z < 200
          · obtain ⟨q, hq⟩ : ∃ q : Nat, z = (q : Int) := ⟨z.toNat, by omega⟩
            have dz1 : decide (z < 0) = false := by rw [decide_eq_false_iff_not]; omega
            have dz2 : decide (200 ≤ z) = false := by rw [decide_eq_false_iff_not]; omega
            obtain ⟨at_, hat⟩ : ∃ at_ : Nat, at_ = q * 512 := ⟨_, rfl⟩
            have hat2 : z * 512 = (at_ : Int) := by omega
            obtain ⟨m, hm⟩ : ∃ m, min 2 (size - at_) = m := ⟨_, rfl⟩
            have HRF := Lib.hid (HFR.out at_ 2 m hm)
            have HRG := Lib.hid (HGR.out at_ 2 m hm)
            have HLN : Hid ((fileL S T at_ m).length = m) := Lib.hid (by simp [fileL])
            generalize fileL S T at_ m = L2 at *
            have hz0' : 0 ≤ z := by omega
            have hz1' : z ≤ 199 := by omega
            clear hq hat hm hin
            go_wp2_with fail
            first | rw [hat2] | skip
            refine (HRF.out wr HKR.out).mono ?_
            rintro e w8 ⟨v8, rfl, r8, k8⟩
            have R8 := Lib.hid r8; have K8 := Lib.hid (HKR.out.trans k8 (fun _ h => h.elim))
            have c8 := HC.out w8 K8.out
            clear r8 k8
            go_wp2_with fail
            first | rw [hat2] | skip
            refine (HRG.out w8 K8.out).mono ?_
            rintro e w9 ⟨v9, rfl, r9, k9⟩
            have K9 := Lib.hid (K8.out.trans k9 (fun _ h => h.elim))
            have q8 := str_row (R8.out.keep k9 (fun _ _ h => h)) HLN.out
            have q9 := str_row r9 HLN.out
            clear r9 k9 c8 c1
            go_wp2_with fail
            go_roundw
            case rel => exact ⟨i + 1, by omega, by go_num, K9.out⟩
            case measure => simp [intOf]; omega
          · have dz : z < 0 ∨ 200 ≤ z := by omega
            rcases dz with dz | dz
            · have dz1 : decide (z < 0) = true := by rw [decide_eq_true_eq]; omega
              go_wp2_with fail
              go_roundw
              case rel => exact ⟨i + 1, by omega, by go_num, HKR.out⟩
              case measure => simp [intOf]; omega
            · have dz1 : decide (z < 0) = false := by rw [decide_eq_false_iff_not]; omega
              have dz2 : decide (200 ≤ z) = true := by rw [decide_eq_true_eq]; omega
              go_wp2_with fail
              go_roundw
              case rel => exact ⟨i + 1, by omega, by go_num, HKR.out⟩
              case measure => simp [intOf]; omega
        · have hcs : (i < l.length ∧ 12 ≤ i) ∨ l.length ≤ i := by omega
          rcases hcs with ⟨t1, t2⟩ | t1
          all_goals
            first
              | (have hd1 : decide ((i : Int) < (l.length : Int)) = true := by rw [decide_eq_true_eq]; omega)
                (have hd3 : decide (i < l.length) = true := by rw [decide_eq_true_eq]; omega)
                (have hd2 : decide ((i : Int) < 12) = false := by rw [decide_eq_false_iff_not]; omega)
              | (have hd1 : decide ((i : Int) < (l.length : Int)) = false := by rw [decide_eq_false_iff_not]; omega)
                (have hd3 : decide (i < l.length) = false := by rw [decide_eq_false_iff_not]; omega)
            clear hlt
            go_wp2_with (at_make; go_loud (refine wpList_make_row_g rfl (.const (.int .i64 65)) (.const (.int .i64 65)) rfl Tryd.underlying33 hi0 hz0 hz1 hz2 65 rfl rfl rfl rfl (by omega) (by unfold maxLen; omega) ?_))
            intro w8 h8 k8 _
            have K8 := Lib.hid (HKR.out.trans k8 (fun _ h => h.elim))
            clear h8 k8
            go_wp2_with (first | (go_at_call 7; refine (HLL.out w8 K8.out _ _).mono ?_; rintro e w9 ⟨rfl, k9⟩; have K9 := Lib.hid (K8.out.trans k9 (fun _ h => h.elim)); clear k9) | (go_at_call 12; refine (isF_same _ (by rfl)).mono ?_; rintro e w' ⟨rfl, rfl⟩))
            go_ret
            exact ⟨rfl, HW6.out.trans K9.out (fun _ h => h.elim)⟩

end Go.Proofs.YtdkigiemhkoijaaDoor.Ino
