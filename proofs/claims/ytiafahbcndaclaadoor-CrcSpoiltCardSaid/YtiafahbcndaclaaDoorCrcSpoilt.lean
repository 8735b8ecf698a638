/- CrcSpoilt answers true: a byte that is changed, whichever, changes the sum. -/
import Derived.Test.YtiafahbcndaclaaDoorCrcLaw
namespace Go.Proofs.YtiafahbcndaclaaDoor
open Go.RowKit

theorem byte_xor (c : UInt8) (x : Int) (h0 : 0 ≤ x) (h1 : x < 256) (hx : x ≠ 0) : ∃ d : UInt8, d ≠ c ∧ bits .xor .u8 (c.toNat : Int) x = (d.toNat : Int) := by
  obtain ⟨n, rfl⟩ := Int.eq_ofNat_of_zero_le h0
  have hc := c.toNat_lt
  have hlt : c.toNat ^^^ n < 2 ^ 8 := Nat.xor_lt_two_pow (by omega) (by omega)
  refine ⟨UInt8.ofNat (c.toNat ^^^ n), fun e => ?_, ?_⟩
  · have h2 := congrArg UInt8.toNat e
    rw [UInt8.toNat_ofNat', Nat.mod_eq_of_lt hlt] at h2
    have h3 : c.toNat ^^^ n = c.toNat ^^^ 0 := by simpa using h2
    have := xor_inj_left h3
    omega
  · rw [UInt8.toNat_ofNat', Nat.mod_eq_of_lt hlt]
    exact u8_xor_nat c.toNat n (by omega) (by omega)

set_option maxHeartbeats 2000000 in
set_option maxRecDepth 100000 in
theorem spoilt_any {w : World} {vb : Value} {l : List UInt8} (at' x : Int) (hT : Tab w) (h : Seen w 1 vb l.length (bcells l)) (hx0 : 0 ≤ x) (hx1 : x < 256) (ha1 : at' ≤ 9223372036854775807) :
    Calls Tryd.prog 4 #[vb, .int .i64 at', .int .u8 x] w fun e w' => e = .returned (.bool true) ∧ Keep (fun _ => False) w w' := by
  have HT := Lib.hid hT
  have HS := Lib.hid h
  clear hT h
  obtain ⟨i0, hi0, hz0, hz1, hz2⟩ := info_parts Tryd.infoB
  by_cases c1 : l.length = 0
  · have HL : Hid ((l.take 200).length = 0) := Lib.hid (by rw [List.length_take]; omega)
    clear c1
    go_enter Tryd.func4, Tryd.ntmps4
    go_wp2_with fail
    refine (begun2_any HT.out).mono ?_
    rintro e w1 ⟨rfl, hk⟩
    have HK := Lib.hid hk
    have HS1 := Lib.hid (HS.out.keep hk (fun _ _ _ h => h))
    clear hk
    go_wp2_with fail
    refine (short_any HS1.out 200 (by omega)).mono ?_
    rintro e w2 ⟨u, rfl, hu, rfl⟩
    obtain ⟨_, a, cap, rfl, _⟩ := hu
    rw [HL.out]
    go_wp2
    go_ret
    exact ⟨rfl, HK.out⟩
  · obtain ⟨m, hm⟩ : ∃ m, m = l.take 200 := ⟨_, rfl⟩
    have hm1 : 0 < m.length := by rw [hm, List.length_take]; omega
    have hm2 : m.length ≤ 200 := by rw [hm, List.length_take]; omega
    have HM := Lib.hid hm
    have hm0 : ((m.length : Int) == 0) = false := by simp; intro e; simp [e] at hm1
    clear hm c1
    by_cases c2 : x = 0
    · subst c2
      go_enter Tryd.func4, Tryd.ntmps4
      go_wp2_with fail
      refine (begun2_any HT.out).mono ?_
      rintro e w1 ⟨rfl, hk⟩
      have HK := Lib.hid hk
      have HS1 := Lib.hid (HS.out.keep hk (fun _ _ _ h => h))
      clear hk
      go_wp2_with fail
      refine (short_is 200 HS1.out HM.out (by omega)).mono ?_
      rintro e w2 ⟨u, rfl, hu, rfl⟩
      obtain ⟨_, a, cap, rfl, _⟩ := hu
      go_wp2
      go_ret
      exact ⟨rfl, HK.out⟩
    by_cases c3 : at' < 0
    · go_enter Tryd.func4, Tryd.ntmps4
      go_wp2_with fail
      refine (begun2_any HT.out).mono ?_
      rintro e w1 ⟨rfl, hk⟩
      have HK := Lib.hid hk
      have HS1 := Lib.hid (HS.out.keep hk (fun _ _ _ h => h))
      clear hk
      go_wp2_with fail
      refine (short_is 200 HS1.out HM.out (by omega)).mono ?_
      rintro e w2 ⟨u, rfl, hu, rfl⟩
      obtain ⟨_, a, cap, rfl, _⟩ := hu
      have hx : (x == 0) = false := by simpa using c2
      go_wp2
      go_ret
      exact ⟨rfl, HK.out⟩
    have hx : (x == 0) = false := by simpa using c2
    have ha0 : 0 ≤ at' := by omega
    obtain ⟨j, hj, hjn⟩ : ∃ j : Nat, at' % (m.length : Int) = (j : Int) ∧ j < m.length := by
      have h1 := Int.emod_nonneg at' (show (m.length : Int) ≠ 0 by omega)
      have h2 := Int.emod_lt_of_pos at' (show (0 : Int) < m.length by omega)
      exact ⟨(at' % (m.length : Int)).toNat, by omega, by omega⟩
    obtain ⟨d, hd1, hd2⟩ := byte_xor m[j] x hx0 hx1 c2
    have HD : Hid (crcMore 0 m ≠ crcMore 0 (m.set j d)) := Lib.hid (fun e => crc_spoilt m j hjn d hd1 e.symm)
    have HB : Hid ((bcells m).set j (.int .u8 (d.toNat : Int)) = bcells (m.set j d)) := Lib.hid (by simp only [bcells, List.map_set])
    have HC : Hid ((bcells m)[j]? = some (.int .u8 (m[j].toNat : Int))) := Lib.hid (by simp [bcells, List.getElem?_eq_getElem hjn])
    have HJ := Lib.hid hj
    have HD2 := Lib.hid hd2
    clear hd1 hd2 hj c2 c3
    go_enter Tryd.func4, Tryd.ntmps4
    go_wp2_with fail
    refine (begun2_any HT.out).mono ?_
    rintro e w1 ⟨rfl, hk⟩
    have HK := Lib.hid hk
    have HS1 := Lib.hid (HS.out.keep hk (fun _ _ _ h => h))
    have HT1 := Lib.hid (HT.out.keep hk (fun h => h))
    clear hk
    go_wp2_with fail
    refine (short_is 200 HS1.out HM.out (by omega)).mono ?_
    rintro e w2 ⟨u, rfl, hu, rfl⟩
    have HU := Lib.hid hu
    obtain ⟨_, a, cap, rfl, _⟩ := hu
    go_wp2_with (at_builtin; go_loud (refine wpList_append_row _ rfl (.const (.slice none 0 0)) (.tmp 26) rfl Tryd.underlying23 hi0 hz0 hz1 hz2 rfl (v := .slice none 0 0) (n := 0) (xs := []) rfl (Row.nil _ _ _) rfl (HU.out.src Tryd.underlying23 ?c2) ?c3 ?c4 ?grow))
    case c2 => intro u hu; obtain ⟨y, _, rfl⟩ := List.mem_map.1 hu; rfl
    case c3 => simp only [maxLen]; omega
    case c4 => omega
    case grow =>
      intro v2 w2 hr2 hk2 hb2 _
      obtain ⟨gc, oc, cc, rfl, hcc, hcm⟩ := hr2.full hm1
      have hkF : Keep (fun _ => False) w1 w2 := hk2.mono (fun _ _ h => by simp [Value.ownBlock] at h)
      have hgc := hb2 gc rfl
      simp [Value.ownBlock] at hgc
      have cj : w2.cell? ⟨gc, oc + j, none⟩ = some (.int .u8 (m[j].toNat : Int)) := (hr2.cellAt j (by omega)).trans HC.out
      have fj := (hr2.there j (by omega)).2
      have hk3 := hkF.setCell ⟨gc, oc + j, none⟩ (.int .u8 (d.toNat : Int)) (.inr hgc.1)
      have HK3 := Lib.hid (HK.out.trans hk3 (fun _ h => h.elim))
      have HU3 := Lib.hid (HU.out.keep hk3 (fun _ _ _ h => h))
      have HT3 := Lib.hid (HT1.out.keep hk3 (fun h => h))
      have hr3 := hr2.stored j (.int .u8 (d.toNat : Int))
      rw [HB.out] at hr3
      have HC3 := Lib.hid (show Seen (w2.setCell ⟨gc, oc + j, none⟩ (.int .u8 (d.toNat : Int))) 1 (.slice (some ⟨gc, oc, none⟩) m.length cc) (m.set j d).length (bcells (m.set j d)) by rw [List.length_set]; exact hr3.seen)
      clear hr2 hk2 hb2 hkF hgc hk3 hr3
      have hj := HJ.out
      have hd2 := HD2.out
      go_wp2_with fail
      clear hj hd2
      refine (sum1_any HT3.out HU3.out (by simp)).mono ?_
      rintro e w4 ⟨rfl, rfl⟩
      go_wp2_with fail
      refine (sum1_any (HT3.out.alloc _) (HC3.out.alloc _) (by simp)).mono ?_
      rintro e w4 ⟨rfl, rfl⟩
      have hne := HD.out
      generalize crcMore 0 m = s1 at *
      generalize crcMore 0 (m.set j d) = s2 at *
      have hne2 : ((s1 : Int) != (s2 : Int)) = true := bne_iff_ne.2 (fun e => hne (by omega))
      go_wp2
      go_ret
      exact ⟨rfl, (HK3.out.alloc _).alloc _⟩

end Go.Proofs.YtiafahbcndaclaaDoor
