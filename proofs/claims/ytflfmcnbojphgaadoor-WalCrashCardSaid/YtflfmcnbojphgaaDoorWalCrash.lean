/- WalCrash answers true. -/
import Derived.Test.YtflfmcnbojphgaaDoorCrashB
import Derived.Deep.RegionHeld3
namespace Go.Proofs.YtflfmcnbojphgaaDoor
open Go.RowKit
set_option maxRecDepth 100000

theorem Tryd.infoStates : (Tryd.prog.info? 34).map (fun i => (i.zero, i.size, i.bytes)) = some (some (.slice none 0 0), 1, 24) := by kernel_rfl

theorem homes_zero {D : Dk} (h : D = openD (Dk.fresh (List.replicate 128 zeroSec))) : HomeIs D (List.replicate 128 zeroSec) := by
  have ho := open_fresh (zeros_ok 128 (by omega)) (by rw [List.length_replicate]; omega)
  rw [List.length_replicate] at ho
  intro i a b
  rw [h, ho.2.1 i a b, rh_head (replicate_head 128 (by omega))]

theorem CP.start {D : Dk} (h : D = openD (Dk.fresh (List.replicate 128 zeroSec))) (k : Nat) (vh : Value) : CP (D.limit ((k : Int) + 1)) (List.replicate 128 zeroSec) [] [] vh [vh] 0 := by
  have ho := open_fresh (zeros_ok 128 (by omega)) (by rw [List.length_replicate]; omega)
  rw [List.length_replicate] at ho
  rw [← h] at ho
  refine ⟨rfl, rfl, ho.1.limit _, fun i a b => homes_zero h i a b, RefIs.nil, List.length_replicate, by simp, by simp, fun x hx => by simp at hx, ?_⟩
  simp [deadB, Dk.limit]
  omega

theorem limit_dg {w0 wr : World} {p : Nat} {D : Dk} {n : Nat} (h : Dg w0 wr p D n) (k : Int) (hk : k ≤ 1099511627776) (hd : deadB D = false) :
    Calls Tryd.prog 8 #[.pointer (some ⟨p, 0, none⟩), .int .i64 k] wr fun e w' => e = .returned (.tuple #[]) ∧ Dg w0 w' p (D.limit k) n := by
  obtain ⟨F, ⟨⟨vl, vn, vc, hdk, hF⟩, hlt, hm⟩, h2, h3, h4⟩ := h
  refine (limit_any hdk k hd).mono ?_
  rintro e w' ⟨rfl, hd', hk', hs⟩
  exact ⟨rfl, F, ⟨⟨vl, vn, vc, hd', hF⟩, fun b hb => by rw [hs]; exact hlt b hb, hm.limit k hk⟩, h2, h3.behind hk' (h2 p (hF p (.inl rfl))), h4⟩

theorem Two.mono {N : Nat → Prop} {w0 wr : World} {p q : Nat} {S : LogS} {n m : Nat} (h : Two N w0 wr p q S n) (hm : n ≤ m) : Two N w0 wr p q S m := by
  obtain ⟨F, a, b, c, h1, h2⟩ := h.ex
  exact ⟨⟨F, a, b, c, ⟨h1.head, h1.disk.mono hm, h1.wait, h1.mark, h1.lost, h1.ab, h1.ac, h1.bc, h1.fq, h1.fa, h1.fb, h1.fc, ⟨h1.ok.len, h1.ok.len2, h1.ok.wait, h1.ok.mark, h1.ok.wlen, h1.ok.mlen, Nat.le_trans h1.ok.llen hm⟩⟩, h2⟩, h.keep, h.tab⟩

theorem CM.later {w : World} {p q : Nat} {S : LogS} {n m r : Nat} {N : Nat → Prop} {vh vw : Value} {us : List Value} {ks : List (Nat × Value)} {H : List ByteArray} {W : Grp} {vst : Value} {sts : List Value} {wr : World}
    (h : CM w (fun M wr => Two M w wr p q S n) r N vh vw us ks H W vst sts wr) (hm : n ≤ m) : CM w (fun M wr => Two M w wr p q S m) r N vh vw us ks H W vst sts wr :=
  ⟨h.ref, h.nlt, h.rnew, h.row, h.own, h.side.mono hm⟩

/-- A round of which nothing comes. -/
theorem CLive.skip {w : World} {p q r i synced L : Nat} {st : Value} {wr w' : World} (h : CLive w p q r i synced st wr) (k : Keep (fun _ => False) wr w') (hL : i < L) (h20 : i < 20) (hs : synced ≤ i) {x : Int} (hx : x = (i : Int) + 1) : CRel w p q r L st (.int .i64 (synced : Int)) (.int .i64 x) w' := by
  obtain ⟨N, vh, vw, us, ks, H, W, g, D, sts, hm, hp, hw⟩ := h
  exact ⟨i + 1, synced, by omega, by omega, by omega, by rw [hx]; rfl, rfl, .inl ⟨N, vh, vw, us, ks, H, W, g, D, sts, (hm.go (side_two w p q _ _) k).later (by omega), hp, by omega⟩⟩

/-- A round that synced. -/
theorem CLive.synced {w : World} {p q r i synced L n : Nat} {st : Value} {wr : World} {N : Nat → Prop} {vh vw : Value} {us : List Value} {ks : List (Nat × Value)} {H : List ByteArray} {W g : Grp} {D : Dk} {sts : List Value}
    (hm : CM w (fun M wr => Two M w wr p q ⟨D, g, [], []⟩ n) r N vh vw us ks H W st sts wr) (hp : CP D H W g vh sts synced) (hn : n ≤ 50 + 100 * (i + 1)) (hL : i < L) (h20 : i < 20) (hs : synced ≤ i + 1) {x y : Int} (hx : x = (i : Int) + 1) (hy : y = (synced : Int)) (hw : W.length ≤ i + 1) : CRel w p q r L st (.int .i64 y) (.int .i64 x) wr :=
  ⟨i + 1, synced, by omega, by omega, hs, by rw [hx]; rfl, by rw [hy], .inl ⟨N, vh, vw, us, ks, H, W, g, D, sts, hm.later hn, hp, hw⟩⟩

theorem CDead.rel {w : World} {p q r i synced L : Nat} {st : Value} {wr : World} (h : CDead w p synced st wr) (hL : i < L) (h20 : i < 20) (hs : synced ≤ i + 1) {x : Int} (hx : x = (i : Int) + 1) : CRel w p q r L st (.int .i64 (synced : Int)) (.int .i64 x) wr :=
  ⟨i + 1, synced, by omega, by omega, hs, by rw [hx]; rfl, rfl, .inr h⟩

theorem CDead.go {w : World} {p synced : Nat} {st : Value} {wr w' : World} (h : CDead w p synced st wr) (k : Keep (fun _ => False) wr w') : CDead w p synced st w' := by
  obtain ⟨N, n, D, sts, v1, v2, us1, us2, H1, H2, hd, hn, hl, hdd, hr, hlen, e1, e2, h1, h2, l1, l2, hv⟩ := h
  exact ⟨N, n, D, sts, v1, v2, us1, us2, H1, H2, hd.go k, hn, hl, hdd, hr.keep k (fun _ _ h => h), hlen, e1, e2, h1.keep k (fun _ _ h => h), h2.keep k (fun _ _ h => h), l1, l2, hv⟩

theorem cfin_of {w : World} {p q r i synced : Nat} {st : Value} {wr : World} (h : CLive w p q r i synced st wr ∨ CDead w p synced st wr) (hi : i ≤ 20) (hs : synced ≤ i) : CFin w p st (.int .i64 (synced : Int)) wr := by
  rcases h with h | h
  · exact h.fin hi hs
  · exact h.fin (by omega)

/-- One block more that the log leaves alone. -/
theorem side_twoB (w : World) (p q : Nat) (S : LogS) (n B : Nat) : Side w (fun M wr => Two (fun x => M x ∨ x = B) w wr p q S n) :=
  ⟨fun h k a b => (h.other k (fun x hx => .inl (a x hx)) b).sub (fun x hx => by
    rcases hx with (hx | hx) | hx
    · exact .inl (.inl hx)
    · exact .inr hx
    · exact .inl (.inr hx)), fun h a => h.sub (fun x hx => by
    rcases hx with hx | hx
    · exact .inl (a x hx)
    · exact .inr hx), fun h => h.keep⟩

theorem kdrewN (w : World) (n : Nat) : Keep (fun _ => False) w (w.drewN n) := ⟨rfl, rfl, rfl, Nat.le_refl _, fun _ _ _ => rfl⟩

theorem putr_fit {N : Nat → Prop} {w w' : World} {r : Nat} {vh vs : Value} {us : List Value} {H : List ByteArray} {W : Grp} {i : Nat} {s : ByteArray} {ev : Ending} (h : PutR N w r vh vs us H W i s ev w') (hf : (glook W i).isSome = true ∨ W.length < 40) :
    ev = .returned (.bool true) ∧ ∃ vw' ks', RefAt (more N w w') w' r vh vw' vs us ks' H (rput W i s) ∧ Keep (fun x => x = r) w w' := by
  rcases h with ⟨h1, h2, _⟩ | ⟨_, h⟩
  · rcases hf with hf | hf
    · rw [h1] at hf; cases hf
    · omega
  · exact h

theorem putr_no {N : Nat → Prop} {w w' : World} {r : Nat} {vh vs : Value} {us : List Value} {H : List ByteArray} {W : Grp} {i : Nat} {s : ByteArray} {ev : Ending} (h : PutR N w r vh vs us H W i s ev w') (hf : ¬ ((glook W i).isSome = true ∨ W.length < 40)) : ev = .returned (.bool false) ∧ w = w' := by
  rcases h with ⟨_, _, h3, h4⟩ | ⟨h, _⟩
  · exact ⟨h3, h4⟩
  · exact (hf h).elim

/-- A round that put. -/
theorem CLive.put {w : World} {p q r i synced L n : Nat} {st : Value} {wr : World} {N : Nat → Prop} {vh vw : Value} {us : List Value} {ks : List (Nat × Value)} {H : List ByteArray} {W g : Grp} {D : Dk} {sts : List Value} {j : Nat} {s : ByteArray}
    (hm : CM w (fun M wr => Two M w wr p q ⟨D, gput g j s, [], []⟩ n) r N vh vw us ks H (rput W j s) st sts wr) (hp : CP D H W g vh sts synced) (hg : GOk g) (h1 : 48 ≤ j) (h2 : j < 128) (hf : (glook W j).isSome = true ∨ W.length < 40) (hn : n ≤ 50 + 100 * (i + 1)) (hL : i < L) (h20 : i < 20) (hs : synced ≤ i) {x : Int} (hx : x = (i : Int) + 1) (hw : W.length ≤ i) : CRel w p q r L st (.int .i64 (synced : Int)) (.int .i64 x) wr :=
  CLive.synced hm (hp.put hg h1 h2 hf) hn hL h20 (by omega) hx rfl (by rw [rput_length]; split <;> omega)

/-- The memory ahead of the loop. -/
theorem cm_start {w w3 w4 : World} {p q r : Nat} {D : Dk} {n : Nat} {vh : Value} {us : List Value} (h : Lg w w3 p q ⟨D, [], [], []⟩ n) (hst : StAt w3 r 128 w4)
    (hh : w4.heap[r]? = some (.cells #[vh, .slice none 0 0, .slice none 0 0] 37 (0, 0))) (hA : HomesAt (fun x => w3.heap.size ≤ x ∧ x < w4.heap.size ∧ x ≠ r) w4 vh us (List.replicate 128 zeroSec)) :
    CM w (fun M wr => Two M w wr p q ⟨D, [], [], []⟩ n) r (fun x => w3.heap.size ≤ x ∧ x < w4.heap.size ∧ x ≠ r) vh (.slice none 0 0) us [] (List.replicate 128 zeroSec) [] (.slice (some ⟨w4.heap.size, 0, none⟩) 1 1) [vh] (w4.alloc (.cells #[vh] 34)) := by
  have ka : Keep (fun _ => False) w4 (w4.alloc (.cells #[vh] 34)) := (Keep.refl _ w4).alloc _
  have s3 := h.keep.size
  have hlt := lt_of_block hh
  have hn := hst.new
  refine ⟨⟨(ka.block r hlt (fun h => h)).trans hh, hA.keep ka (fun _ _ h => h), ⟨Row.nil _ _ _, fun b hb => by simp [Value.ownBlock] at hb, rfl, fun k hk => by simp at hk⟩, fun h => h.2.2 rfl⟩, fun x hx => ⟨by omega, by simp; omega⟩, by omega, ?_, fun x hx => ?_, ?_⟩
  · exact Row.made #[vh] w4.heap.size 1 rfl (by simp [maxLen]) rfl
  · simp [Value.ownBlock] at hx
    subst hx
    exact ⟨fun h => by omega, by omega, by omega⟩
  · refine Two.start h (hst.keep.trans ka (fun _ h => h.elim)) (fun x hx => ?_)
    rcases hx with hx | hx | hx
    · exact hx.1
    · omega
    · simp [Value.ownBlock] at hx
      have := hst.keep.size; omega

set_option maxHeartbeats 4000000 in
theorem wc_in {w : World} (hT : Tab w) (n k : Nat) {vo v1 v2 : Value} {os : List (Int × Int × List UInt8)} {bs1 bs2 : List Bool} (h1 : n ≤ 300) (h2 : k ≤ 100) (hO : OpsW w vo os) (hp1 : Seen w 1 v1 bs1.length (bools bs1)) (hb1 : ∀ b, v1.ownBlock = some b → 0 < bs1.length → b < w.heap.size)
    (hp2 : Seen w 1 v2 bs2.length (bools bs2)) (hb2 : ∀ b, v2.ownBlock = some b → 0 < bs2.length → b < w.heap.size) :
    Calls Tryd.prog 3 #[vo, .int .i64 (n : Int), v1, .int .i64 (k : Int), v2] w fun e w' => e = .returned (.bool true) ∧ Keep (fun _ => False) w w' := by
  obtain ⟨i1, hi1, hy0, hy1, hy2⟩ := info_parts Tryd.infoStates
  have HJ := Lib.hid hi1; have HY0 := Lib.hid hy0; have HY1 := Lib.hid hy1; have HY2 := Lib.hid hy2
  clear hi1 hy0 hy1 hy2
  have HT := Lib.hid hT; have HO := Lib.hid hO; have HP1 := Lib.hid hp1; have HB1 := Lib.hid hb1; have HP2 := Lib.hid hp2; have HB2 := Lib.hid hb2
  obtain ⟨ao, L, capo, hL, rfl, hco, hco2⟩ : ∃ a L cap, os.length = L ∧ vo = .slice a L cap ∧ L ≤ cap ∧ cap ≤ maxLen := by
    obtain ⟨a, cap, h1, h2, h3⟩ := hO.shape
    exact ⟨a, os.length, cap, rfl, h1, h2, h3⟩
  unfold maxLen at hco2
  have HL := Lib.hid hL
  obtain ⟨_, a1, cp1, rfl, _, _, _⟩ := hp1
  obtain ⟨_, a2, cp2, rfl, _, _, _⟩ := hp2
  have ho := open_fresh (zeros_ok 128 (by omega)) (by rw [List.length_replicate]; omega)
  rw [List.length_replicate] at ho
  have HOF := Lib.hid ho
  clear hT hO hb1 hb2 ho hL
  go_enter Tryd.func3, Tryd.ntmps3
  go_wp2_with (go_at_call 4; refine (begun3_any HT.out).mono ?_; rintro e w1 ⟨rfl, k1⟩; have K1 := Lib.hid k1; clear k1)
  refine (new_g K1.out HT.out 128 (by omega) (by omega)).mono ?_
  rintro e w2 ⟨p, rfl, h2'⟩
  have H2 := Lib.hid h2'; clear h2'
  go_wp2_with fail
  refine (open_g H2.out (by omega) (by simp [Dk.fresh]) (by simp [Dk.fresh]) HOF.out.2.2).mono ?_
  rintro e w3 ⟨q, rfl, h3'⟩
  obtain ⟨D1, hD1⟩ : ∃ D1, D1 = openD (Dk.fresh (List.replicate 128 zeroSec)) := ⟨_, rfl⟩
  rw [← hD1] at h3'
  have H3 := Lib.hid h3'
  have HPS := fun vh => CP.start hD1 n vh
  have HLV : Hid (deadB D1 = false) := Lib.hid (by rw [hD1]; exact HOF.out.2.2)
  have HP := Lib.hid HPS
  clear h3' H2 hD1 HPS HOF
  go_wp2_with fail
  refine (state_any).mono ?_
  rintro e w4 ⟨r, rfl, hst⟩
  obtain ⟨vh, us, hh, hA⟩ := hst.ex
  have hnew := hst.new
  have ch : w4.cell? ⟨r, 0, none⟩ = some vh := by rw [cell_of_row _ _ _ _ _ _ hh]; rfl
  have HST := Lib.hid hst; have HH := Lib.hid hh; have HA := Lib.hid hA; have HNEW := Lib.hid hnew
  obtain ⟨ah, caph, e0, hca, hcb⟩ := hA.row.slice
  rw [List.length_replicate] at e0 hca
  subst e0
  clear hst hh hA hnew
  have HCM := Lib.hid (cm_start H3.out HST.out HH.out HA.out)
  go_wp2_with fail
  refine (limit_t HCM.out.side ((n : Int) + 1) (by omega) HLV.out).mono ?_
  rintro e w6 ⟨rfl, h6, k6⟩
  have hcm := HCM.out.log (T' := fun M wr => Two M w wr p q ⟨D1.limit ((n : Int) + 1), [], [], []⟩ (50 + 100 * 0)) k6 h6
  have H0 : Hid (CRel w p q r L (.slice (some ⟨w4.heap.size, 0, none⟩) 1 1) (.int .i64 0) (.int .i64 0) w6) := Lib.hid ⟨0, 0, by omega, by omega, by omega, rfl, rfl, .inl ⟨_, _, _, _, _, _, _, _, _, _, hcm, HP.out _, by simp⟩⟩
  clear h6 k6 hcm HCM HST HH HA HNEW H3 HP HLV
  generalize w4.heap.size = gst at *
  go_upto_block 0 with (fail)
  go_cut [16, 17, 18, 19, 20] from 67 to 142 (fun st sy _ _ _ wx => CFin w p st sy wx)
  case first =>
    go_wp2_with fail
    go_loopw [16, 17, 18] (fun st sy iv wr => CRel w p q r L st sy iv wr) (fun _ _ iv _ => 20 - (intOf iv).toNat)
    case atStart => exact H0.out
    case round =>
      obtain ⟨i, synced, hiL, hi20, hsi, rfl, rfl, hF⟩ := hrel.ex
      clear hrel H0
      have HF := Lib.hid hF
      clear hF
      by_cases t1 : i < L
      · by_cases t2 : i < 20
        · rcases HF.out with hA | hB
          · have HA := Lib.hid hA
            obtain ⟨N, vh, vw, us', ks, H, W, g, D, sts, hm, hp, hwi⟩ := hA
            have HWI := Lib.hid hwi
            clear hwi
            have HM := Lib.hid hm; have HP := Lib.hid hp
            have HLV : Hid (deadB (LogS.D ⟨D, g, [], []⟩) = false) := Lib.hid hp.live
            obtain ⟨go, oo, capx, hvo, hgo, hop⟩ := HO.out.each i (by rw [HL.out]; exact t1)
            simp only [Value.slice.injEq] at hvo
            obtain ⟨rfl, -, -⟩ := hvo
            have hk := hm.side.keep
            have c0 := hop.kind
            have c1 := hop.num
            obtain ⟨u, c2, hus, hub⟩ := hop.bytes
            have ft1 := hop.fit1
            have ft2 := hop.fit2
            rw [← hk.cell hgo (fun h => h)] at c0 c1 c2
            have HUS := Lib.hid hus
            have HUB : Hid (∀ b, u.ownBlock = some b → 0 < (os[i]'(by rw [HL.out]; exact t1)).2.2.length → b < w.heap.size) := Lib.hid hub
            obtain ⟨au, capu, lu, eu, hcu⟩ : ∃ au capu lu, u = .slice au lu capu ∧ lu = (os[i]'(by rw [HL.out]; exact t1)).2.2.length := by
              obtain ⟨_, a, cap, h, _⟩ := hus
              exact ⟨a, cap, _, h, rfl⟩
            have HLU := Lib.hid hcu
            generalize (os[i]'(by rw [HL.out]; exact t1)).1 = kd at *
            generalize (os[i]'(by rw [HL.out]; exact t1)).2.1 = ii at *
            generalize (os[i]'(by rw [HL.out]; exact t1)).2.2 = bl at *
            subst eu
            clear hm hp hop hus hub hk hcu hgo
            unfold inInt3 at ft1 ft2
            obtain ⟨ft1a, ft1b⟩ := ft1
            obtain ⟨ft2a, ft2b⟩ := ft2
            go_wp2_with fail
            refine (dead_g HM.out.side.lg.dg).mono ?_
            rw [HLV.out]
            rintro e w' ⟨rfl, rfl⟩
            have hk3 : kd = 0 ∨ kd = 1 ∨ kd = 2 ∨ (kd ≠ 0 ∧ kd ≠ 1 ∧ kd ≠ 2) := by omega
            rcases hk3 with rfl | rfl | rfl | ⟨k0, k1, k2⟩
            · as_aux_lemma =>
              by_cases hin : 48 ≤ ii ∧ ii < 128
              · obtain ⟨j, rfl⟩ := Int.eq_ofNat_of_zero_le (show 0 ≤ ii by omega)
                have hj1 : 48 ≤ j := by omega
                have hj2 : j < 128 := by omega
                have HJ1 := Lib.hid hj1; have HJ2 := Lib.hid hj2
                have d1 : decide ((48 : Int) ≤ (j : Int)) = true := by rw [decide_eq_true_eq]; omega
                have d2 : decide ((j : Int) < 128) = true := by rw [decide_eq_true_eq]; omega
                have kX : Keep (fun _ => False) wr (wr.alloc (.cells #[.int .i64 0, .int .i64 (j : Int), .slice au lu capu] 42)).drew := ((Keep.refl (fun _ => False) wr).alloc _).drew
                have HMA := Lib.hid (HM.out.log (T' := fun M wr' => Two (fun x => M x ∨ x = wr.heap.size) w wr' p q ⟨D, g, [], []⟩ (50 + 100 * i)) (kX.mono (fun _ _ h => h.elim)) ((HM.out.side.other kX (fun _ h => h.elim) (fun _ h => h.elim)).sub (fun x hx => by
                  rcases hx with hx | hx
                  · exact .inl hx
                  · exact .inr ⟨by omega, by rw [hx]; simp [show ∀ w : World, w.drew.heap = w.heap from fun _ => rfl]⟩)))
                have HGO := Lib.hid HMA.out.side.lg.gok
                have HU1 := Lib.hid (HUS.out.keep HMA.out.side.keep (fun _ _ _ h => h))
                have HUB1 : Hid (∀ b, (Value.slice au lu capu).ownBlock = some b → 0 < bl.length → b < (wr.alloc (.cells #[.int .i64 0, .int .i64 (j : Int), .slice au lu capu] 42)).drew.heap.size) := Lib.hid (fun b hb h0 => Nat.lt_of_lt_of_le (HUB.out b hb h0) HMA.out.side.keep.size)
                have HRLT := Lib.hid (lt_of_block HM.out.ref.head)
                have d3 : decide (48 ≤ j) = true := by rw [decide_eq_true_eq]; omega
                have d4 : decide (j < 128) = true := by rw [decide_eq_true_eq]; omega
                clear kX hin
                have HFIT : Hid ((glook W j).isSome = true ∨ W.length < 40) := Lib.hid (.inr (by have := HWI.out; omega))
                · skip
                  go_wp2
                  go_region_held3 (fun w' => w'.cell? ⟨wr.heap.size, 1, none⟩ = some (.int .i64 (j : Int)) ∧ w'.cell? ⟨wr.heap.size, 2, none⟩ = some (.slice au lu capu)) (go_keep) (first | (go_at_call 11; refine (full_pos HU3.out HUB3.out).mono ?_; rintro e w3 ⟨rfl, hr3, k3, _⟩; have q5 : w3.cell? ⟨wr.heap.size, 1, none⟩ = some (.int .i64 (j : Int)) := (k3.cell (b := wr.heap.size) (World.block_lt_of_cell? _ _ q3) (fun h => h) 1).trans q3; have q6 : w3.cell? ⟨wr.heap.size, 2, none⟩ = some (.slice au lu capu) := (k3.cell (b := wr.heap.size) (World.block_lt_of_cell? _ _ q4) (fun h => h) 2).trans q4; have HB3 := Lib.hid (secStr_bytes hr3); have HM3 := Lib.hid (HM2.out.go (side_twoB w p q _ _ _) k3); clear hr3 k3) | (go_at_call 12; refine (put_t HM3.out.side j _ rfl (by rw [show (LogS.D ⟨D, g, [], []⟩).las.length = 128 from HP.out.clean.len]; exact home_in HJ1.out HJ2.out) w2.heap.size 0 512 (secStr bl) (secStr_size _) HB3.out (by rw [← HP.out.refis.look]; rcases HFIT.out with h | h; exact .inl h; exact .inr (by show g.length < 40; rw [← HP.out.refis.len]; exact h))).mono ?_; rintro e w4 ⟨rfl, h4, k4⟩; have HM4 := Lib.hid (HM3.out.log (T' := fun M wr => Two M w wr p q ⟨D, gput g j (secStr bl), [], []⟩ (50 + 100 * i)) (k4.mono (fun _ _ h ha => h (.inl ha))) (h4.sub (fun _ hx => .inl hx))); have q7 : w4.cell? ⟨wr.heap.size, 1, none⟩ = some (.int .i64 (j : Int)) := (k4.cell (b := wr.heap.size) (World.block_lt_of_cell? _ _ q5) (fun h => h (.inr rfl)) 1).trans q5; have q8 : w4.cell? ⟨wr.heap.size, 2, none⟩ = some (.slice au lu capu) := (k4.cell (b := wr.heap.size) (World.block_lt_of_cell? _ _ q6) (fun h => h (.inr rfl)) 2).trans q6; clear h4 k4) | (go_at_call 10; refine (refput_any HM1.out.ref HP.out.refis.keys HP.out.wlen j _ rfl (by omega) HR1.out (secStr_size _)).mono ?_; intro ev w2 hpr; obtain ⟨rfl, vw2, ks2, hrf, k2⟩ := putr_fit hpr HFIT.out; have q3 : w2.cell? ⟨wr.heap.size, 1, none⟩ = some (.int .i64 (j : Int)) := (k2.cell (b := wr.heap.size) (World.block_lt_of_cell? _ _ q1) (fun e => by have := HRLT.out; omega) 1).trans q1; have q4 : w2.cell? ⟨wr.heap.size, 2, none⟩ = some (.slice au lu capu) := (k2.cell (b := wr.heap.size) (World.block_lt_of_cell? _ _ q2) (fun e => by have := HRLT.out; omega) 2).trans q2; have HM2 := Lib.hid (HM1.out.turn (side_twoB w p q _ _ _) hrf k2); have HU3 := Lib.hid (HUS.out.keep HM2.out.side.keep (fun _ _ _ h => h)); have HUB3 : Hid (∀ b, (Value.slice au lu capu).ownBlock = some b → 0 < bl.length → b < w2.heap.size) := Lib.hid (fun b hb h0 => Nat.lt_of_lt_of_le (HUB.out b hb h0) HM2.out.side.keep.size); clear hpr hrf k2) | (go_at_call 11; refine (full_pos HU1.out HUB1.out).mono ?_; rintro e w1 ⟨rfl, hr1, k1, _⟩; have q1 : w1.cell? ⟨wr.heap.size, 1, none⟩ = some (.int .i64 (j : Int)) := (k1.cell (b := wr.heap.size) (by simp) (fun h => h) 1).trans (by simp [World.cell?_alloc_new]); have q2 : w1.cell? ⟨wr.heap.size, 2, none⟩ = some (.slice au lu capu) := (k1.cell (b := wr.heap.size) (by simp) (fun h => h) 2).trans (by simp [World.cell?_alloc_new]); simp only [show ∀ w : World, w.drew.heap = w.heap from fun _ => rfl, World.size_alloc] at hr1; have HR1 : Hid (Row w1 5 1 (.slice (some ⟨wr.heap.size + 1, 0, none⟩) 512 512) 512 (byteCells (secStr bl))) := Lib.hid hr1; have HM1 := Lib.hid (HMA.out.go (side_twoB w p q _ _ _) k1); have K1 := Lib.hid k1; clear hr1 k1))
                  all_goals go_simp
                  all_goals go_wp2
                  all_goals
                    go_roundw
                    case rel => (repeat apply Exists.intro); first | exact CLive.put HM4.out HP.out HGO.out HJ1.out HJ2.out HFIT.out (by omega) t1 t2 hsi rfl HWI.out | exact ⟨CLive.put HM4.out HP.out HGO.out HJ1.out HJ2.out HFIT.out (by omega) t1 t2 hsi rfl HWI.out, rfl⟩
                    case measure => simp [intOf]; omega
              · by_cases h48 : 48 ≤ ii
                · have h128 : ¬ ii < 128 := by omega
                  have b1 : decide ((48 : Int) ≤ ii) = true := by rw [decide_eq_true_eq]; omega
                  have b2 : decide (ii < 128) = false := by rw [decide_eq_false_iff_not]; omega
                  clear hin
                  go_wp2
                  go_quiet (fail)
                  go_wp2
                  go_roundw
                  case rel => (repeat apply Exists.intro); first | exact HA.out.skip (((Keep.refl (fun _ => False) wr).alloc _).trans (kdrewN _ _) (fun _ h => h.elim)) t1 t2 hsi rfl | exact ⟨HA.out.skip (((Keep.refl (fun _ => False) wr).alloc _).trans (kdrewN _ _) (fun _ h => h.elim)) t1 t2 hsi rfl, rfl⟩
                  case measure => simp [intOf]; omega
                · have b1 : decide ((48 : Int) ≤ ii) = false := by rw [decide_eq_false_iff_not]; omega
                  clear hin
                  go_wp2
                  go_quiet (fail)
                  go_wp2
                  go_roundw
                  case rel => (repeat apply Exists.intro); first | exact HA.out.skip (((Keep.refl (fun _ => False) wr).alloc _).trans (kdrewN _ _) (fun _ h => h.elim)) t1 t2 hsi rfl | exact ⟨HA.out.skip (((Keep.refl (fun _ => False) wr).alloc _).trans (kdrewN _ _) (fun _ h => h.elim)) t1 t2 hsi rfl, rfl⟩
                  case measure => simp [intOf]; omega
            · as_aux_lemma =>
              have HMA := Lib.hid (HM.out.go (side_two w p q _ _) ((Keep.refl (fun _ => False) wr).alloc (.cells #[.int .i64 1, .int .i64 ii, .slice au lu capu] 42)))
              have HGO := Lib.hid HMA.out.side.lg.gok
              cases hds : deadB (syncD D g)
              · have HDS := Lib.hid hds
                clear hds
                go_wp2_with fail
                refine (sync_t HMA.out.side HMA.out.lt (by omega) HDS.out).mono ?_
                rintro e w1 ⟨rfl, h1, k1⟩
                have HM1 := Lib.hid (HMA.out.log (T' := fun M wr => Two M w wr p q ⟨syncD D g, [], [], []⟩ (50 + 100 * i + 100)) k1 h1)
                clear h1 k1
                go_wp2_with fail
                refine (refsync_any HM1.out.ref (fun x hx => by rw [HP.out.hlen]; exact (HP.out.win x hx).2) HP.out.wlen HP.out.hlen).mono ?_
                rintro e w2 ⟨rfl, vh', us2, hr, k2⟩
                have HM2 := Lib.hid (HM1.out.turn (side_two w p q _ _) hr k2)
                have ch := hr.cell 0
                simp only [List.getElem?_toArray, List.getElem?_cons_zero] at ch
                obtain ⟨avh, cvh, evh, _, _⟩ := hr.homes.row.slice
                have hhl : (rsync H W).length = 128 := by rw [rsync_length]; exact HP.out.hlen
                rw [hhl] at evh
                subst evh
                obtain ⟨ast, cst, est, hcst, hcst2⟩ := HM2.out.row.slice
                have HEST := Lib.hid est
                unfold maxLen at hcst2
                have HLEN := Lib.hid HP.out.len
                rw [HP.out.len] at est hcst
                subst est
                have hlsb : synced ≤ 20 := by omega
                have HROW : Hid (Row (w2.alloc (.cells #[.slice avh 128 cvh] 34)) 34 1 (.slice ast (synced + 1) cst) (synced + 1) sts) := Lib.hid (by have h9 := HM2.out.row.alloc (.cells #[.slice avh 128 cvh] 34); rw [HLEN.out] at h9; exact h9)
                clear hr k2
                go_wp2_with (at_builtin; go_loud (refine wpList_append_row _ rfl (.tmp 124) (.tmp 129) rfl Tryd.underlying38 HJ.out HY0.out HY1.out HY2.out rfl rfl HROW.out rfl (Src.lit Tryd.underlying38 #[.slice avh 128 cvh] _ 1 1 rfl rfl (by simp [Value.oneCell'])) (by unfold maxLen; omega) (by omega) ?k1))
                case k1 =>
                  intro v3 w3 r1 r2 r3 _
                  obtain ⟨a3, c3, rfl, _, _⟩ := r1.slice
                  have hp3 := (HM2.out.go (side_two w p q _ _) ((Keep.refl (fun _ => False) w2).alloc (.cells #[.slice avh 128 cvh] 34))).push (side_two w p q _ _) (by rw [HLEN.out]; exact r1) r2 (fun b hb => by have h9 := r3 b hb; simp only [World.size_alloc]; exact h9)
                  have HM3 := Lib.hid hp3
                  have HD3 := Lib.hid (hp3.side.lg.dg.go (Keep.refl (fun _ => False) w3).drew)
                  clear r1 r2 r3 hp3
                  go_wp2
                  go_region_law (go_simp; go_at_call 9; refine (dead_g HD3.out).mono ?_; rw [show deadB (LogS.D ⟨syncD D g, [], [], []⟩) = false from HDS.out]; rintro e w' ⟨rfl, rfl⟩)
                  all_goals go_simp
                  all_goals go_wp2_with (go_at_call 9; refine (dead_g HD3.out).mono ?_; rw [show deadB (LogS.D ⟨syncD D g, [], [], []⟩) = false from HDS.out]; rintro e w' ⟨rfl, rfl⟩)
                  all_goals
                    go_roundw
                    case rel => (repeat apply Exists.intro); first | exact CLive.synced (HM3.out.go (side_two w p q _ _) (Keep.refl (fun _ => False) w3).drew) (HP.out.sync HGO.out HDS.out _) (by omega) t1 t2 (by omega) rfl (by omega) (by simp) | exact ⟨CLive.synced (HM3.out.go (side_two w p q _ _) (Keep.refl (fun _ => False) w3).drew) (HP.out.sync HGO.out HDS.out _) (by omega) t1 t2 (by omega) rfl (by omega) (by simp), rfl⟩
                    case measure => simp [intOf]; omega
              · have HDS := Lib.hid hds
                have HNE := Lib.hid (HP.out.ne hds)
                clear hds
                go_wp2_with fail
                refine (syncdead_t HMA.out.side HMA.out.lt (by omega) HNE.out HDS.out).mono ?_
                rintro e w1 ⟨rfl, h1, k1⟩
                have HM1 := Lib.hid (HMA.out.log (T' := fun M wr => TwoD M w wr p (syncD D g) (50 + 100 * i + 100)) k1 h1)
                clear h1 k1
                go_wp2_with fail
                refine (refsync_any HM1.out.ref (fun x hx => by rw [HP.out.hlen]; exact (HP.out.win x hx).2) HP.out.wlen HP.out.hlen).mono ?_
                rintro e w2 ⟨rfl, vh', us2, hr, k2⟩
                have HM2 := Lib.hid (HM1.out.turn (side_twoD w p _ _) hr k2)
                have HOLD := Lib.hid ((HM1.out.ref.homes.keep k2 (fun x hx e => HM1.out.ref.out (e ▸ hx))).mono (M := more N w1 w2) (fun _ h => .inl h))
                have ch := hr.cell 0
                simp only [List.getElem?_toArray, List.getElem?_cons_zero] at ch
                obtain ⟨avh, cvh, evh, _, _⟩ := hr.homes.row.slice
                have hhl : (rsync H W).length = 128 := by rw [rsync_length]; exact HP.out.hlen
                rw [hhl] at evh
                subst evh
                obtain ⟨ast, cst, est, hcst, hcst2⟩ := HM2.out.row.slice
                unfold maxLen at hcst2
                have HLEN := Lib.hid HP.out.len
                rw [HP.out.len] at est hcst
                subst est
                have hlsb : synced ≤ 20 := by omega
                have HROW : Hid (Row (w2.alloc (.cells #[.slice avh 128 cvh] 34)) 34 1 (.slice ast (synced + 1) cst) (synced + 1) sts) := Lib.hid (by have h9 := HM2.out.row.alloc (.cells #[.slice avh 128 cvh] 34); rw [HLEN.out] at h9; exact h9)
                clear hr k2
                go_wp2_with (at_builtin; go_loud (refine wpList_append_row _ rfl (.tmp 124) (.tmp 129) rfl Tryd.underlying38 HJ.out HY0.out HY1.out HY2.out rfl rfl HROW.out rfl (Src.lit Tryd.underlying38 #[.slice avh 128 cvh] _ 1 1 rfl rfl (by simp [Value.oneCell'])) (by unfold maxLen; omega) (by omega) ?k1))
                case k1 =>
                  intro v3 w3 r1 r2 r3 _
                  obtain ⟨a3, c3, rfl, _, _⟩ := r1.slice
                  have ka : Keep (fun _ => False) w2 (w2.alloc (.cells #[.slice avh 128 cvh] 34)) := (Keep.refl (fun _ => False) w2).alloc _
                  have hp3 := (HM2.out.go (side_twoD w p _ _) ka).push (side_twoD w p _ _) (by rw [HLEN.out]; exact r1) r2 (fun b hb => by have h9 := r3 b hb; simp only [World.size_alloc]; exact h9)
                  have hold := (HOLD.out.keep ka (fun _ _ h => h)).keep r2 (fun x hx e => (HM2.out.own x e).1 hx)
                  have hcd : CDead w p synced (.slice a3 (synced + 1 + 1) c3) w3 := ⟨_, _, _, _, vh, _, _, _, _, _, hp3.side.dg, by omega, by rw [syncD_len]; exact HP.out.clean.len, HDS.out, by rw [← HLEN.out] at hp3 ⊢; exact hp3.row, by simp [HLEN.out], by rw [List.getElem?_append_left (by rw [HLEN.out]; omega)]; exact HP.out.last, by rw [List.getElem?_append_right (by rw [HLEN.out]; omega), HLEN.out]; simp, hold, hp3.ref.homes, HP.out.hlen, by rw [rsync_length]; exact HP.out.hlen, HP.out.died HGO.out⟩
                  have HCD := Lib.hid hcd
                  have HD3 := Lib.hid (hp3.side.dg.go (Keep.refl (fun _ => False) w3).drew)
                  clear r1 r2 r3 hp3 hold hcd ka
                  go_wp2
                  go_region_law (go_simp; go_at_call 9; refine (dead_g HD3.out).mono ?_; rw [HDS.out]; rintro e w' ⟨rfl, rfl⟩)
                  all_goals go_simp
                  all_goals go_wp2_with (go_at_call 9; refine (dead_g HD3.out).mono ?_; rw [HDS.out]; rintro e w' ⟨rfl, rfl⟩)
                  all_goals
                    go_roundw
                    case rel => (repeat apply Exists.intro); first | exact (HCD.out.go (Keep.refl (fun _ => False) w3).drew).rel t1 t2 (by omega) rfl | exact ⟨(HCD.out.go (Keep.refl (fun _ => False) w3).drew).rel t1 t2 (by omega) rfl, rfl⟩
                    case measure => simp [intOf]; omega
            · as_aux_lemma =>
              have HMA := Lib.hid (HM.out.go (side_two w p q _ _) ((Keep.refl (fun _ => False) wr).alloc (.cells #[.int .i64 2, .int .i64 ii, .slice au lu capu] 42)))
              have HGO := Lib.hid HMA.out.side.lg.gok
              cases hds : deadB (syncD D g)
              · have HDS := Lib.hid hds
                clear hds
                go_wp2_with fail
                refine (sync_t HMA.out.side HMA.out.lt (by omega) HDS.out).mono ?_
                rintro e w1 ⟨rfl, h1, k1⟩
                have HM1 := Lib.hid (HMA.out.log (T' := fun M wr => Two M w wr p q ⟨syncD D g, [], [], []⟩ (50 + 100 * i + 100)) k1 h1)
                clear h1 k1
                go_wp2_with fail
                refine (refsync_any HM1.out.ref (fun x hx => by rw [HP.out.hlen]; exact (HP.out.win x hx).2) HP.out.wlen HP.out.hlen).mono ?_
                rintro e w2 ⟨rfl, vh', us2, hr, k2⟩
                have HM2 := Lib.hid (HM1.out.turn (side_two w p q _ _) hr k2)
                have ch := hr.cell 0
                simp only [List.getElem?_toArray, List.getElem?_cons_zero] at ch
                obtain ⟨avh, cvh, evh, _, _⟩ := hr.homes.row.slice
                have hhl : (rsync H W).length = 128 := by rw [rsync_length]; exact HP.out.hlen
                rw [hhl] at evh
                subst evh
                obtain ⟨ast, cst, est, hcst, hcst2⟩ := HM2.out.row.slice
                have HEST := Lib.hid est
                unfold maxLen at hcst2
                have HLEN := Lib.hid HP.out.len
                rw [HP.out.len] at est hcst
                subst est
                have hlsb : synced ≤ 20 := by omega
                have HROW : Hid (Row (w2.alloc (.cells #[.slice avh 128 cvh] 34)) 34 1 (.slice ast (synced + 1) cst) (synced + 1) sts) := Lib.hid (by have h9 := HM2.out.row.alloc (.cells #[.slice avh 128 cvh] 34); rw [HLEN.out] at h9; exact h9)
                clear hr k2
                go_wp2_with (at_builtin; go_loud (refine wpList_append_row _ rfl (.tmp 124) (.tmp 129) rfl Tryd.underlying38 HJ.out HY0.out HY1.out HY2.out rfl rfl HROW.out rfl (Src.lit Tryd.underlying38 #[.slice avh 128 cvh] _ 1 1 rfl rfl (by simp [Value.oneCell'])) (by unfold maxLen; omega) (by omega) ?k1))
                case k1 =>
                  intro v3 w3 r1 r2 r3 _
                  obtain ⟨a3, c3, rfl, _, _⟩ := r1.slice
                  have hp3 := (HM2.out.go (side_two w p q _ _) ((Keep.refl (fun _ => False) w2).alloc (.cells #[.slice avh 128 cvh] 34))).push (side_two w p q _ _) (by rw [HLEN.out]; exact r1) r2 (fun b hb => by have h9 := r3 b hb; simp only [World.size_alloc]; exact h9)
                  have HM3 := Lib.hid hp3
                  have HD3 := Lib.hid (hp3.side.lg.dg.go (Keep.refl (fun _ => False) w3).drew)
                  clear r1 r2 r3 hp3
                  go_wp2
                  go_region_law (go_simp; go_at_call 9; refine (dead_g HD3.out).mono ?_; rw [show deadB (LogS.D ⟨syncD D g, [], [], []⟩) = false from HDS.out]; rintro e w' ⟨rfl, rfl⟩)
                  all_goals go_simp
                  all_goals go_wp2_with (go_at_call 9; refine (dead_g HD3.out).mono ?_; rw [show deadB (LogS.D ⟨syncD D g, [], [], []⟩) = false from HDS.out]; rintro e w' ⟨rfl, rfl⟩)
                  all_goals
                    go_roundw
                    case rel => (repeat apply Exists.intro); first | exact CLive.synced (HM3.out.go (side_two w p q _ _) (Keep.refl (fun _ => False) w3).drew) (HP.out.sync HGO.out HDS.out _) (by omega) t1 t2 (by omega) rfl (by omega) (by simp) | exact ⟨CLive.synced (HM3.out.go (side_two w p q _ _) (Keep.refl (fun _ => False) w3).drew) (HP.out.sync HGO.out HDS.out _) (by omega) t1 t2 (by omega) rfl (by omega) (by simp), rfl⟩
                    case measure => simp [intOf]; omega
              · have HDS := Lib.hid hds
                have HNE := Lib.hid (HP.out.ne hds)
                clear hds
                go_wp2_with fail
                refine (syncdead_t HMA.out.side HMA.out.lt (by omega) HNE.out HDS.out).mono ?_
                rintro e w1 ⟨rfl, h1, k1⟩
                have HM1 := Lib.hid (HMA.out.log (T' := fun M wr => TwoD M w wr p (syncD D g) (50 + 100 * i + 100)) k1 h1)
                clear h1 k1
                go_wp2_with fail
                refine (refsync_any HM1.out.ref (fun x hx => by rw [HP.out.hlen]; exact (HP.out.win x hx).2) HP.out.wlen HP.out.hlen).mono ?_
                rintro e w2 ⟨rfl, vh', us2, hr, k2⟩
                have HM2 := Lib.hid (HM1.out.turn (side_twoD w p _ _) hr k2)
                have HOLD := Lib.hid ((HM1.out.ref.homes.keep k2 (fun x hx e => HM1.out.ref.out (e ▸ hx))).mono (M := more N w1 w2) (fun _ h => .inl h))
                have ch := hr.cell 0
                simp only [List.getElem?_toArray, List.getElem?_cons_zero] at ch
                obtain ⟨avh, cvh, evh, _, _⟩ := hr.homes.row.slice
                have hhl : (rsync H W).length = 128 := by rw [rsync_length]; exact HP.out.hlen
                rw [hhl] at evh
                subst evh
                obtain ⟨ast, cst, est, hcst, hcst2⟩ := HM2.out.row.slice
                unfold maxLen at hcst2
                have HLEN := Lib.hid HP.out.len
                rw [HP.out.len] at est hcst
                subst est
                have hlsb : synced ≤ 20 := by omega
                have HROW : Hid (Row (w2.alloc (.cells #[.slice avh 128 cvh] 34)) 34 1 (.slice ast (synced + 1) cst) (synced + 1) sts) := Lib.hid (by have h9 := HM2.out.row.alloc (.cells #[.slice avh 128 cvh] 34); rw [HLEN.out] at h9; exact h9)
                clear hr k2
                go_wp2_with (at_builtin; go_loud (refine wpList_append_row _ rfl (.tmp 124) (.tmp 129) rfl Tryd.underlying38 HJ.out HY0.out HY1.out HY2.out rfl rfl HROW.out rfl (Src.lit Tryd.underlying38 #[.slice avh 128 cvh] _ 1 1 rfl rfl (by simp [Value.oneCell'])) (by unfold maxLen; omega) (by omega) ?k1))
                case k1 =>
                  intro v3 w3 r1 r2 r3 _
                  obtain ⟨a3, c3, rfl, _, _⟩ := r1.slice
                  have ka : Keep (fun _ => False) w2 (w2.alloc (.cells #[.slice avh 128 cvh] 34)) := (Keep.refl (fun _ => False) w2).alloc _
                  have hp3 := (HM2.out.go (side_twoD w p _ _) ka).push (side_twoD w p _ _) (by rw [HLEN.out]; exact r1) r2 (fun b hb => by have h9 := r3 b hb; simp only [World.size_alloc]; exact h9)
                  have hold := (HOLD.out.keep ka (fun _ _ h => h)).keep r2 (fun x hx e => (HM2.out.own x e).1 hx)
                  have hcd : CDead w p synced (.slice a3 (synced + 1 + 1) c3) w3 := ⟨_, _, _, _, vh, _, _, _, _, _, hp3.side.dg, by omega, by rw [syncD_len]; exact HP.out.clean.len, HDS.out, by rw [← HLEN.out] at hp3 ⊢; exact hp3.row, by simp [HLEN.out], by rw [List.getElem?_append_left (by rw [HLEN.out]; omega)]; exact HP.out.last, by rw [List.getElem?_append_right (by rw [HLEN.out]; omega), HLEN.out]; simp, hold, hp3.ref.homes, HP.out.hlen, by rw [rsync_length]; exact HP.out.hlen, HP.out.died HGO.out⟩
                  have HCD := Lib.hid hcd
                  have HD3 := Lib.hid (hp3.side.dg.go (Keep.refl (fun _ => False) w3).drew)
                  clear r1 r2 r3 hp3 hold hcd ka
                  go_wp2
                  go_region_law (go_simp; go_at_call 9; refine (dead_g HD3.out).mono ?_; rw [HDS.out]; rintro e w' ⟨rfl, rfl⟩)
                  all_goals go_simp
                  all_goals go_wp2_with (go_at_call 9; refine (dead_g HD3.out).mono ?_; rw [HDS.out]; rintro e w' ⟨rfl, rfl⟩)
                  all_goals
                    go_roundw
                    case rel => (repeat apply Exists.intro); first | exact (HCD.out.go (Keep.refl (fun _ => False) w3).drew).rel t1 t2 (by omega) rfl | exact ⟨(HCD.out.go (Keep.refl (fun _ => False) w3).drew).rel t1 t2 (by omega) rfl, rfl⟩
                    case measure => simp [intOf]; omega
            · have e0 : (kd == 0) = false := by simpa using k0
              have e1 : (kd == 1) = false := by simpa using k1
              have e2 : (kd == 2) = false := by simpa using k2
              clear k0 k1 k2
              go_wp2
              go_roundw
              case rel => (repeat apply Exists.intro); first | exact HA.out.skip ((Keep.refl (fun _ => False) wr).alloc _) t1 t2 hsi rfl | exact ⟨HA.out.skip ((Keep.refl (fun _ => False) wr).alloc _) t1 t2 hsi rfl, rfl⟩
              case measure => simp [intOf]; omega
          · have HB := Lib.hid hB
            obtain ⟨N, n', D, sts, _, _, _, _, _, _, hd, _, _, hdead, _⟩ := hB
            have HD := Lib.hid hd; have HDD := Lib.hid hdead
            clear hd hdead
            go_wp2_with (go_at_call 9; refine (dead_g HD.out).mono ?_; rw [HDD.out]; rintro e w' ⟨rfl, rfl⟩)
            go_meet
            exact HB.out.fin (by omega)
        · have hfin := cfin_of HF.out (by omega) (by omega)
          have HFIN := Lib.hid hfin
          clear hfin
          go_wp2
          go_meet
          exact HFIN.out
      · have hfin := cfin_of HF.out (by omega) (by omega)
        have HFIN := Lib.hid hfin
        clear hfin
        go_wp2
        go_meet
        exact HFIN.out
  case rest =>
    obtain ⟨synced, N, n', D, sts, rfl, hs20, hlen30, hd, hn', hl, hrow, hall, hval⟩ := hcut.ex
    obtain ⟨gs, os', caps, hvs, hcs, hcs2⟩ := hrow.full (by obtain ⟨t, _, _, _, h1, h2, _⟩ := hval []; omega)
    subst hvs
    unfold maxLen at hcs2
    have HD := Lib.hid hd; have HROW := Lib.hid hrow; have HALL := Lib.hid hall; have HVAL := Lib.hid hval; have HLD := Lib.hid hl
    have HPW1 := Lib.hid (HP1.out.keep hd.keep (fun _ _ _ h => h))
    have HPW2 := Lib.hid (HP2.out.keep hd.keep (fun _ _ _ h => h))
    have HBW1 : Hid (∀ b, (Value.slice a1 bs1.length cp1).ownBlock = some b → 0 < bs1.length → b < wc.heap.size) := Lib.hid (fun b hb h0 => Nat.lt_of_lt_of_le (HB1.out b hb h0) hd.keep.size)
    have HBW2 : Hid (∀ b, (Value.slice a2 bs2.length cp2).ownBlock = some b → 0 < bs2.length → b < wc.heap.size) := Lib.hid (fun b hb h0 => Nat.lt_of_lt_of_le (HB2.out b hb h0) hd.keep.size)
    clear hcut hd hrow hall hval hl H0
    go_wp2_with fail
    refine (dcrash_new HD.out (by rw [HLD.out]; omega) HPW1.out HBW1.out).mono ?_
    rintro e w7 ⟨p2, rfl, h7⟩
    have H7 := Lib.hid h7; clear h7
    obtain ⟨Lc, hLc⟩ : ∃ Lc, Lc = putAll D.las (pick D.cache bs1) := ⟨_, rfl⟩
    have h7 := H7.out
    rw [crash_fresh, ← hLc] at h7
    have HLc : Hid (Lc.length = 128) := Lib.hid (by rw [hLc, putAll_length]; exact HLD.out)
    have HV := HVAL.out bs1
    rw [← hLc] at HV
    have HV := Lib.hid HV
    have H7 := Lib.hid h7
    clear h7 hLc HVAL
    go_wp2_with fail
    refine (limit_dg H7.out (k : Int) (by omega) rfl).mono ?_
    rintro e w8 ⟨rfl, h8⟩
    have H8 := Lib.hid h8; clear h8
    go_wp2_with fail
    refine (open_d H8.out (by omega) (by show 128 ≤ Lc.length; rw [HLc.out]; omega) (by show Lc.length ≤ 4096; rw [HLc.out]; omega)).mono ?_
    rintro e w9 ⟨rv, rfl, h9⟩
    have H9 := Lib.hid h9; clear h9
    have HOKL : Hid ((Dk.fresh Lc).Ok) := Lib.hid H7.out.ok
    have HPW3 := Lib.hid (HPW2.out.keep H9.out.keep (fun _ _ _ h => h))
    go_wp2_with fail
    refine (dcrash_g H9.out (by rw [openD_len]; show Lc.length ≤ 4096; rw [HLc.out]; omega) HPW3.out (fun b hb h0 => Nat.lt_of_lt_of_le (HBW2.out b hb h0) H9.out.keep.size)).mono ?_
    rintro e w10 ⟨p3, rfl, h10, k10⟩
    have HRV := Lib.hid (reopen_val HOKL.out HLc.out k bs2 (by have := h10.ok; rw [crash_fresh] at this; exact this))
    have H10 := Lib.hid h10; clear h10 k10
    go_wp2_with fail
    refine (open_g H10.out (by omega) (by rw [HRV.out.2.2.1]; omega) (by rw [HRV.out.2.2.1]; omega) HRV.out.2.1).mono ?_
    rintro e w11 ⟨q2, rfl, h11⟩
    obtain ⟨D9, hD9⟩ : ∃ D9, D9 = openD ((openD ((Dk.fresh Lc).limit k)).crash bs2) := ⟨_, rfl⟩
    have HR9 : Hid (∀ i, 48 ≤ i → i < 128 → LogS.read ⟨D9, [], [], []⟩ i = rh Lc i) := Lib.hid (by rw [hD9]; exact HRV.out.2.2.2)
    have HL9 : Hid (D9.las.length = 128) := Lib.hid (by rw [hD9, openD_len]; exact HRV.out.2.2.1)
    have H11 : Hid (Lg wc w11 p3 q2 ⟨D9, [], [], []⟩ 50) := Lib.hid (by rw [hD9]; exact h11)
    have HKW : Hid (Keep (fun _ => False) wc w11) := Lib.hid h11.keep
    have HK0 := Lib.hid HD.out.keep
    clear h11 hD9 HRV H10 H9 H8 H7 HPW1 HPW2 HPW3 HBW1 HBW2
    obtain ⟨tt, vt, ut, Ht, ht1, ht2, ht3, ht4, ht5, ht6⟩ := HV.out
    have HT4 := Lib.hid ht4; have HT3 := Lib.hid ht3; have HT6 := Lib.hid ht6; have HT5 := Lib.hid ht5
    clear ht3 ht4 ht5 ht6 HV
    obtain ⟨ls, hls⟩ : ∃ ls, ls = sts.length := ⟨_, rfl⟩
    have HLS := Lib.hid hls
    rw [← hls] at ht2 hcs hlen30 HROW ⊢
    clear hls
    go_wp2
    go_loopw [24] (fun iv wr => ∃ j : Nat, synced ≤ j ∧ j ≤ tt ∧ iv = .int .i64 j ∧ Keep (fun _ => False) wc wr ∧ Lg wc wr p3 q2 ⟨D9, [], [], []⟩ 50) (fun iv _ => 30 - (intOf iv).toNat)
    case atStart => exact ⟨synced, by omega, ht1, rfl, HKW.out, H11.out⟩
    case round =>
      obtain ⟨j, hj1, hj2, rfl, hK, hG⟩ := hrel
      have HKR := Lib.hid hK; have HGR := Lib.hid hG
      clear hK hG
      have HKA : Hid (Keep (fun _ => False) w wr) := Lib.hid (HK0.out.trans HKR.out (fun _ h => h.elim))
      have hjl : j < ls := by omega
      by_cases e : j = tt
      · subst e
        obtain ⟨gv, ov, capv, hvv, _, _⟩ := HT4.out.row.full (by rw [HT5.out]; omega)
        rw [HT5.out] at hvv
        subst hvv
        have c0 : wr.cell? ⟨gs, os' + j, none⟩ = some (.slice (some ⟨gv, ov, none⟩) 128 capv) := by
          have hrow := HROW.out.keep HKR.out (fun _ _ h => h)
          rw [hrow.cellAt j (by omega)]; exact HT3.out
        go_wp2_with fail
        refine (home_any HGR.out HL9.out (HT4.out.keep HKR.out (fun _ _ h => h)) HT5.out rfl).mono ?_
        rintro e w12 ⟨⟨b, rfl, hb⟩, k12⟩
        have hbt : b = true := hb (fun i x y => (HR9.out i x y).trans (HT6.out i x y))
        subst hbt
        have K12 := Lib.hid (HKA.out.trans k12 (fun _ h => h.elim))
        clear hb k12
        go_wp2
        go_ret
        exact ⟨rfl, K12.out⟩
      · have hlt : j < tt := by omega
        obtain ⟨vj, uj, Hj, hv1, hv2, hv3⟩ := HALL.out j hj1 (by rw [← HLS.out]; exact hjl)
        obtain ⟨gv, ov, capv, hvv, _, _⟩ := hv2.row.full (by rw [hv3]; omega)
        rw [hv3] at hvv
        subst hvv
        have c0 : wr.cell? ⟨gs, os' + j, none⟩ = some (.slice (some ⟨gv, ov, none⟩) 128 capv) := by
          have hrow := HROW.out.keep HKR.out (fun _ _ h => h)
          rw [hrow.cellAt j (by omega)]; exact hv1
        have HVJ := Lib.hid hv2; have HV3 := Lib.hid hv3
        clear hv1 hv2 hv3
        go_wp2_with fail
        refine (home_any HGR.out HL9.out (HVJ.out.keep HKR.out (fun _ _ h => h)) HV3.out rfl).mono ?_
        rintro e w12 ⟨⟨b, rfl, hb⟩, k12⟩
        have K12 := Lib.hid (HKA.out.trans k12 (fun _ h => h.elim))
        have K13 := Lib.hid (HKR.out.trans k12 (fun _ h => h.elim))
        have G13 := Lib.hid (HGR.out.go k12)
        clear hb k12
        cases b
        · go_wp2
          go_roundw
          case rel => exact ⟨j + 1, by omega, by omega, by go_num, K13.out, G13.out⟩
          case measure => simp [intOf]; omega
        · go_wp2
          go_ret
          exact ⟨rfl, K12.out⟩

end Go.Proofs.YtflfmcnbojphgaaDoor
