/- WalForged answers true: whatever stands in the log's sectors, it opens, and goes on. -/
import Derived.Test.YtlhghhidmcadjaaDoorForge
import Derived.Test.YtlhghhidmcadjaaDoorArgsP
import Derived.Laws.BitsAllLaws
namespace Go.Proofs.YtlhghhidmcadjaaDoor
open Go.RowKit
set_option maxRecDepth 100000

theorem byte_and_xor (c y : UInt8) (x : Int) (h0 : 0 ≤ x) (h1 : x < 256) : ∃ d : UInt8, bits .xor .u8 (c.toNat : Int) (bits .and .u8 (y.toNat : Int) x) = (d.toNat : Int) := by
  obtain ⟨n, rfl⟩ := Int.eq_ofNat_of_zero_le h0
  have hc := c.toNat_lt
  have hy := y.toNat_lt
  have ha : y.toNat &&& n < 2 ^ 8 := Nat.and_lt_two_pow _ (by omega)
  have hlt : c.toNat ^^^ (y.toNat &&& n) < 2 ^ 8 := Nat.xor_lt_two_pow (by omega) ha
  refine ⟨UInt8.ofNat (c.toNat ^^^ (y.toNat &&& n)), ?_⟩
  rw [UInt8.toNat_ofNat', Nat.mod_eq_of_lt hlt, u8_and_nat _ _ (by omega) (by omega), u8_xor_nat _ _ (by omega) (by omega)]

set_option maxHeartbeats 2000000 in
theorem forged_any {w : World} {vp va : Value} {ls : List (List UInt8)} {zs : List Int} (x : Int) (hT : Tab w) (hp : Parts w vp ls) (ha : Seen w 1 va zs.length (icells zs)) (hx0 : 0 ≤ x) (hx1 : x < 256) (hzs : ∀ n ∈ zs, -9223372036854775808 ≤ n ∧ n ≤ 9223372036854775807) :
    Calls Tryd.prog 4 #[vp, va, .int .u8 x] w fun e w' => e = .returned (.bool true) ∧ Keep (fun _ => False) w w' := by
  have HT := Lib.hid hT
  obtain ⟨vals, hv, hvs⟩ := hp
  have HVP := Lib.hid hv
  have HVS := Lib.hid hvs
  have HA := Lib.hid ha
  have HZ := Lib.hid hzs
  have HX := Lib.hid (And.intro hx0 hx1)
  obtain ⟨_, ap, cp, rfl, hlc, hcm, _⟩ := hv
  obtain ⟨_, aa, ca, rfl, hlc2, hcm2, _⟩ := ha
  unfold maxLen at hcm hcm2
  obtain ⟨i0, hi0, hz0, hz1, hz2⟩ := info_parts Tryd.infoB
  have ho := open_fresh (zeros_ok 128 (by omega)) (by rw [List.length_replicate]; omega)
  rw [List.length_replicate] at ho
  have HO := Lib.hid ho
  have HLM : Hid ((openD (Dk.fresh (List.replicate 128 zeroSec))).lim = false) := Lib.hid (by rw [open_lim]; rfl)
  clear hT hvs ho hzs
  go_enter Tryd.func4, Tryd.ntmps4
  go_wp2_with (go_at_call 8; refine (begun3_any HT.out).mono ?_; rintro e w1 ⟨rfl, k1⟩; have K1 := Lib.hid k1; clear k1)
  refine (new_g K1.out HT.out 128 (by omega) (by omega)).mono ?_
  rintro e w2 ⟨p, rfl, h2⟩
  have H2 := Lib.hid h2; clear h2
  go_wp2_with fail
  refine (open_g H2.out (by omega) (by simp [Dk.fresh]) (by simp [Dk.fresh]) HO.out.2.2).mono ?_
  rintro e w3 ⟨q, rfl, h3⟩
  have H3 := Lib.hid h3; clear h3 H2
  have HC := Lib.hid HO.out.1
  clear HO
  generalize openD (Dk.fresh (List.replicate 128 zeroSec)) = D1 at H3 HC HLM
  go_wp2_with fail
  refine (full_any (l := [1]) (Row.made #[Value.int .u8 1] _ 1 rfl (by simp [maxLen]) rfl).seen (by simp [Value.ownBlock])).mono ?_
  rintro e w5 ⟨rfl, hr, hk5, hs5⟩
  simp only [World.size_alloc] at hr hs5
  have H5 := Lib.hid (H3.out.go (((Keep.refl (fun _ => False) w3).alloc _).trans hk5 (fun _ h => h.elim)))
  have HB := Lib.hid (secStr_bytes hr)
  clear hr hk5 hs5
  go_wp2_with fail
  refine (put_g H5.out 60 _ rfl (by rw [HC.out.len]; exact home_in (by omega) (by omega)) _ 0 512 (secStr [1]) (secStr_size _) HB.out (.inr (by simp))).mono ?_
  rintro e w6 ⟨rfl, h6⟩
  have H6 := Lib.hid h6; clear h6
  have HL1 : Hid (deadB (syncD D1 (gput [] 60 (secStr [1]))) = false) := Lib.hid (live (by rw [sync_lim]; exact HLM.out))
  go_wp2_with fail
  refine (sync_g H6.out (by omega) HL1.out).mono ?_
  rintro e w7 ⟨rfl, h7⟩
  have HD0 : Hid (Forged (syncD D1 (gput [] 60 (secStr [1]))) ∧ Dg w w7 p (syncD D1 (gput [] 60 (secStr [1]))) (150 + 0)) := Lib.hid ⟨⟨by rw [sync_lim]; exact HLM.out, by rw [syncD_len]; exact HC.out.len, HC.out.coh.sync _⟩, h7.dg⟩
  clear h7 H3 H5 H6 HL1 HB HC HLM
  generalize syncD D1 (gput [] 60 (secStr [1])) = D2 at HD0
  go_wp2
  go_loopw [11] (fun i wr => ∃ (k : Nat) (D : Dk), i = .int .i64 k ∧ k ≤ 10 ∧ Forged D ∧ Dg w wr p D (150 + k)) (fun i _ => 10 - (intOf i).toNat)
  case atStart => exact ⟨0, _, rfl, by omega, HD0.out⟩
  case round =>
    obtain ⟨k, D, rfl, hF⟩ := hrel
    have HF := Lib.hid hF
    clear hF HD0
    have hk10 := HF.out.1
    by_cases t : k < ls.length ∧ k < zs.length ∧ k < 10
    · obtain ⟨t1, t2, t3⟩ := t
      obtain ⟨_, _, _, hv, _, _, hc⟩ := HVP.out
      simp only [Value.slice.injEq] at hv
      obtain ⟨rfl, _, rfl⟩ := hv
      obtain ⟨gb, ob, rfl, hgb, hcb⟩ := hc.resolve_left (by omega)
      obtain ⟨_, _, _, hv2, _, _, hc2⟩ := HA.out
      simp only [Value.slice.injEq] at hv2
      obtain ⟨rfl, _, rfl⟩ := hv2
      obtain ⟨ga, oa, rfl, hga, hca⟩ := hc2.resolve_left (by omega)
      obtain ⟨u0, hu0, hus0⟩ := HVS.out k t1
      have HKW := Lib.hid HF.out.2.2.keep
      have c0 : wr.cell? ⟨gb, ob + k, none⟩ = some u0 := (HKW.out.cell hgb (fun h => h) (ob + k)).trans (hcb k _ hu0)
      have HU := Lib.hid (hus0.keep HKW.out (fun _ _ _ h => h))
      obtain ⟨_, au, cu, rfl, _, hcmu, _⟩ := hus0
      obtain ⟨z, hz⟩ : ∃ z, z = zs[k] := ⟨_, rfl⟩
      have hzb : -9223372036854775808 ≤ z ∧ z ≤ 9223372036854775807 := by rw [hz]; exact HZ.out _ (List.getElem_mem t2)
      have c1 : wr.cell? ⟨ga, oa + k, none⟩ = some (.int .i64 z) := (HKW.out.cell hga (fun h => h) (oa + k)).trans (hca k _ (by simp [icells, List.getElem?_eq_getElem t2, hz]))
      clear hc hcb hc2 hca hu0 hz
      obtain ⟨m, hm⟩ : ∃ m, m = ls[k] := ⟨_, rfl⟩
      rw [← hm] at HU c0
      clear hm
      by_cases hneg : z < 0
      · go_wp2
        go_roundw
        case rel => exact ⟨k + 1, D, by go_num, by omega, HF.out.2.1, HF.out.2.2.mono (by omega)⟩
        case measure => simp [intOf]; omega
      · have hz0' : 0 ≤ z := by omega
        obtain ⟨j0, hj0, hj48⟩ : ∃ j0 : Nat, z % 48 = (j0 : Int) ∧ j0 < 48 := by
          have h1 := Int.emod_nonneg z (show (48 : Int) ≠ 0 by omega)
          have h2 := Int.emod_lt_of_pos z (show (0 : Int) < 48 by omega)
          exact ⟨(z % 48).toNat, by omega, by omega⟩
        go_wp2_with fail
        refine (dread_g HF.out.2.2 j0 _ (by first | rfl | assumption | omega) (by rw [HF.out.2.1.len]; omega)).mono ?_
        rintro e w8 ⟨g8, cap8, l, hl, rfl, hr8, hk8, hg8⟩
        have HR8 := Lib.hid hr8; have HK8 := Lib.hid hk8; have HL8 := Lib.hid hl
        clear hr8 hk8 hl
        go_wp2_with (at_builtin; go_loud (refine wpList_append_row _ rfl (.const (.slice none 0 0)) (.tmp 71) rfl Tryd.underlying40 hi0 hz0 hz1 hz2 rfl (v := .slice none 0 0) (n := 0) (xs := []) rfl (Row.nil _ _ _) rfl (HR8.out.src Tryd.underlying40 ?c2) ?c3 ?c4 ?grow))
        case c2 => exact bcells_one _
        case c3 => simp [maxLen]
        case c4 => omega
        case grow =>
          intro v9 w9 hr9 hk9 hb9 _
          obtain ⟨gc, oc, cc, rfl, hcc, hcm9⟩ := hr9.full (by omega)
          have hkF : Keep (fun _ => False) w8 w9 := hk9.mono (fun _ _ h => by simp [Value.ownBlock] at h)
          have hgc := hb9 gc rfl
          simp [Value.ownBlock] at hgc
          have HG : Hid (wr.heap.size ≤ gc) := Lib.hid (Nat.le_trans HK8.out.size hgc.1)
          have H9 : Hid (Row w9 5 1 (.slice (some ⟨gc, oc, none⟩) 512 cc) 512 (bcells l) ∧ Keep (fun _ => False) wr w9) := Lib.hid ⟨hr9, HK8.out.trans hkF (fun _ h => h.elim)⟩
          clear hr9 hk9 hb9 hkF hgc
          go_wp2
          go_loopw [16] (fun jv wi => ∃ (j : Nat) (L : List UInt8), jv = .int .i64 j ∧ j ≤ 512 ∧ L.length = 512 ∧ Row wi 5 1 (.slice (some ⟨gc, oc, none⟩) 512 cc) 512 (bcells L) ∧ Keep (fun _ => False) wr wi) (fun jv _ => 512 - (intOf jv).toNat)
          case atStart => exact ⟨0, l, rfl, by omega, HL8.out, H9.out⟩
          case round =>
            obtain ⟨j, L, rfl, hI⟩ := hrel
            have HI := Lib.hid hI
            clear hI
            have hj512 := HI.out.1
            have c0i : wr.cell? ⟨gb, ob + k, none⟩ = some (.slice au m.length cu) := ((HI.out.2.2.2).cell (by have := HKW.out.size; omega) (fun h => h) (ob + k)).trans c0
            clear c0 c1
            by_cases t' : j < m.length ∧ j < 512
            · obtain ⟨t4, t5⟩ := t'
              obtain ⟨_, _, _, hvu, _, _, hcu⟩ := HU.out.keep HI.out.2.2.2 (fun _ _ _ h => h)
              simp only [Value.slice.injEq] at hvu
              obtain ⟨rfl, _, rfl⟩ := hvu
              obtain ⟨gu, ou, rfl, hgu, hcu⟩ := hcu.resolve_left (by omega)
              have hjL : j < L.length := by have := HI.out.2.1; omega
              have cu0 : wr.cell? ⟨gu, ou + j, none⟩ = some (.int .u8 (m[j].toNat : Int)) := hcu j _ (by simp [bcells, List.getElem?_eq_getElem t4])
              have cj : wr.cell? ⟨gc, oc + j, none⟩ = some (.int .u8 (L[j].toNat : Int)) := (HI.out.2.2.1.cellAt j (by omega)).trans (by simp [bcells, List.getElem?_eq_getElem hjL])
              have fj := (HI.out.2.2.1.there j (by omega)).2
              obtain ⟨d, hd⟩ := byte_and_xor L[j] m[j] x HX.out.1 HX.out.2
              have HB : Hid ((bcells L).set j (.int .u8 (d.toNat : Int)) = bcells (L.set j d)) := Lib.hid (by simp only [bcells, List.map_set])
              clear hcu
              go_wp2
              go_region
              all_goals go_wp2
              go_roundw
              case rel =>
                have hr := HI.out.2.2.1.drew.stored j (.int .u8 (d.toNat : Int))
                rw [HB.out] at hr
                exact ⟨j + 1, L.set j d, by go_num, by omega, by rw [List.length_set]; exact HI.out.2.1, hr, HI.out.2.2.2.drew.setCell _ _ (.inr HG.out)⟩
              case measure => simp [intOf]; omega
            · rcases (by omega : ¬ j < m.length ∨ (j < m.length ∧ ¬ j < 512)) with t4 | ⟨t4, t5⟩
              all_goals
                clear t'
                go_wp2_with fail
                refine (dwrite_g (HF.out.2.2.go HI.out.2.2.2) (by omega) HF.out.2.1.lim j0 _ (by first | rfl | assumption | omega) (by rw [HF.out.2.1.len]; omega) gc oc cc L HI.out.2.1 (bytesAt_row HI.out.2.2.1)).mono ?_
                rintro e w10 ⟨rfl, h10⟩
                have H10 := Lib.hid h10; clear h10
                go_wp2
                go_roundw
                case rel => exact ⟨k + 1, _, by go_num, by omega, HF.out.2.1.dw _ _, H10.out⟩
                case measure => simp [intOf]; omega
    · rcases (by omega : ¬ k < ls.length ∨ (k < ls.length ∧ ¬ k < zs.length) ∨ (k < ls.length ∧ k < zs.length ∧ ¬ k < 10)) with t1 | ⟨t1, t2⟩ | ⟨t1, t2, t3⟩
      all_goals
        clear t
        go_wp2_with fail
        refine (dflush_g HF.out.2.2).mono ?_
        rintro e w3 ⟨rfl, h3⟩
        have H3 := Lib.hid h3; clear h3
        have HV := Lib.hid (HF.out.2.1.opened H3.out.ok)
        clear HF
        go_wp2_with fail
        refine (open_g H3.out (by omega) (by rw [HV.out.2.2.2]; omega) (by rw [HV.out.2.2.2]; omega) HV.out.2.2.1).mono ?_
        rintro e w4 ⟨q4, rfl, h4⟩
        have HC := Lib.hid HV.out.1; have HLM := Lib.hid HV.out.2.1
        have H4 := Lib.hid h4; clear h4 H3 HV
        generalize openD D.df = D4 at H4 HC HLM
        go_wp2_with fail
        refine (full_any (l := [9]) (Row.made #[Value.int .u8 9] _ 1 rfl (by simp [maxLen]) rfl).seen (by simp [Value.ownBlock])).mono ?_
        rintro e w5 ⟨rfl, hr, hk5, hs5⟩
        simp only [World.size_alloc] at hr hs5
        have H5 := Lib.hid (H4.out.go (((Keep.refl (fun _ => False) w4).alloc _).trans hk5 (fun _ h => h.elim)))
        have HB := Lib.hid (secStr_bytes hr)
        clear hr hk5 hs5
        go_wp2_with fail
        refine (put_g H5.out 70 _ rfl (by rw [HC.out.len]; exact home_in (by omega) (by omega)) _ 0 512 (secStr [9]) (secStr_size _) HB.out (.inr (by simp))).mono ?_
        rintro e w6 ⟨rfl, h6⟩
        have H6 := Lib.hid h6; clear h6
        have HL1 : Hid (deadB (syncD D4 (gput [] 70 (secStr [9]))) = false) := Lib.hid (live (by rw [sync_lim]; exact HLM.out))
        go_wp2_with fail
        refine (sync_g H6.out (by omega) HL1.out).mono ?_
        rintro e w7 ⟨rfl, h7⟩
        have H7 := Lib.hid h7; clear h7
        have HV := Lib.hid (home_val HC.out HLM.out 70 (by omega) (by omega) (secStr [9]) (secStr_size _) H7.out.dok)
        go_wp2_with fail
        refine (crash_g H7.out (bs := []) (Seen.nil w7 1) (by simp [Value.ownBlock])).mono ?_
        rintro e w8 ⟨p2, rfl, h8, k8⟩
        rw [HV.out.1.crash] at h8
        have H8 := Lib.hid h8; clear h8 k8
        generalize syncD D4 (gput [] 70 (secStr [9])) = D5 at H8 HV H7
        have hlen2 : D5.las.length = 128 := HV.out.1.len
        have HN2 := Lib.hid hlen2; clear hlen2
        go_wp2_with fail
        refine (open_g H8.out (by omega) (by show 128 ≤ D5.las.length; rw [HN2.out]; omega) (by show D5.las.length ≤ 4096; rw [HN2.out]; omega) HV.out.2.1).mono ?_
        rintro e w9 ⟨q2, rfl, h9⟩
        have H9 := Lib.hid h9; clear h9
        have HL9 : Hid ((openD (Dk.fresh D5.las)).las.length = 128) := Lib.hid (by rw [openD_len]; exact HN2.out)
        have HR9 := Lib.hid HV.out.2.2
        generalize openD (Dk.fresh D5.las) = D6 at H9 HL9 HR9
        go_wp2_with fail
        refine (read_g H9.out 70 _ rfl (by show homeB D6.las.length _ = true; rw [HL9.out]; exact home_in (by omega) (by omega))).mono ?_
        rintro e w10 ⟨v, rfl, hn, h10⟩
        rw [HR9.out] at hn
        obtain ⟨g8, cap8, rfl⟩ := hn.shape
        have c9 := hn.cell0 0 (by omega)
        rw [secStr_at] at c9
        have H10 := Lib.hid h10
        clear hn h10
        go_wp2_with fail
        go_ret
        exact ⟨rfl, H10.out.keep⟩
end Go.Proofs.YtlhghhidmcadjaaDoor
