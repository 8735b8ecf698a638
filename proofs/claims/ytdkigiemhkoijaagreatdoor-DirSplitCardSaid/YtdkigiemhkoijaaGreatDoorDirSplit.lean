/- DirSplit answers true, for every input: any text is a path, or none; which names may be. -/
import Derived.Test.YtdkigiemhkoijaaGreatDoorRefSplit
import Derived.Test.YtdkigiemhkoijaaGreatDoorIsF
namespace Go.Proofs.YtdkigiemhkoijaaGreatDoor.Dir
open Go.RowKit Go.Maps Go.Proofs.YtdkigiemhkoijaaGreatDoor Go.Proofs.YtdkigiemhkoijaaGreatDoor.Ino
set_option maxRecDepth 100000

theorem refSplit_no {w : World} (s : ByteArray) (h : ∀ r, s.data.toList ≠ 47 :: r) : Calls Tryz.prog 7 #[.string s] w fun e w' => e = .returned (.tuple #[.slice none 0 0, .bool false]) ∧ w = w' := by
  by_cases h0 : s.toList = []
  · have e0 : s.toList.isEmpty = true := by rw [h0]; rfl
    clear h h0
    go_enter Tryz.func7, Tryz.ntmps7
    go_wp2
    go_ret2
    exact ⟨rfl, rfl⟩
  · have e0 : s.toList.isEmpty = false := by simp [h0]
    have hs1 : 0 < s.size := by
      rw [ByteArray.toList_eq] at h0
      have e : s.size = s.data.toList.length := rfl
      rw [e]
      exact List.length_pos_iff.2 h0
    have hb0 : ((s[0].toNat : Int) != 47) = true := by
      rw [bne_iff_ne]
      intro e
      have e2 : s[0] = 47 := UInt8.toNat_inj.1 (by have : (47 : UInt8).toNat = 47 := rfl; omega)
      have e3 : s[0] = s.data.toList[0]'(by simpa using hs1) := rfl
      rw [e3] at e2
      cases hl : s.data.toList with
      | nil => rw [ByteArray.toList_eq, hl] at h0; exact h0 rfl
      | cons c r => simp [hl] at e2; exact h r (by rw [hl, e2])
    clear h h0
    go_enter Tryz.func7, Tryz.ntmps7
    go_wp2
    go_ret2
    exact ⟨rfl, rfl⟩

theorem refSplit_root {w : World} (s : ByteArray) (h : s.data.toList = [47]) : Calls Tryz.prog 7 #[.string s] w fun e w' => e = .returned (.tuple #[.slice none 0 0, .bool true]) ∧ w = w' := by
  obtain rfl : s = ⟨#[47]⟩ := by rw [← str_eta s, h]
  go_enter Tryz.func7, Tryz.ntmps7
  go_wp2
  go_ret2
  exact ⟨rfl, rfl⟩

theorem splitP_no {p : List UInt8} (h : ∀ r, p ≠ 47 :: r) : splitP p = none := by
  cases p with
  | nil => rfl
  | cons c r => rw [splitP, if_neg (fun e => h r (by rw [e]))]

theorem path_kinds (s : ByteArray) : (∀ r, s.data.toList ≠ 47 :: r) ∨ s.data.toList = [47] ∨ ∃ r : ByteArray, s.data.toList = 47 :: r.data.toList ∧ r.data.toList ≠ [] := by
  cases hl : s.data.toList with
  | nil => exact .inl (fun r h => by cases h)
  | cons c r =>
    by_cases hc : c = 47
    · subst hc
      cases r with
      | nil => exact .inr (.inl rfl)
      | cons d t => exact .inr (.inr ⟨⟨(d :: t).toArray⟩, rfl, by simp⟩)
    · exact .inl (fun r h => by injection h with h1 _; exact hc h1)

/-- What Split answers. -/
structure SpA (p : List UInt8) (w : World) (x : Ending) (w' : World) : Prop where
  or : (∃ L v, splitP p = some L ∧ x = .returned (.tuple #[v, .nilIface]) ∧ Seen w' 1 v L.length (scells L) ∧ Keep (fun _ => False) w w') ∨ (splitP p = none ∧ x = .returned (.tuple #[.slice none 0 0, apiErr 5]) ∧ Keep (fun _ => False) w w')

theorem size_of_cons {s r : ByteArray} (h : s.data.toList = 47 :: r.data.toList) (hs : s.size ≤ 300) : r.size ≤ 300 := by
  have e1 : s.size = s.data.toList.length := rfl
  have e2 : r.size = r.data.toList.length := rfl
  rw [e1, h] at hs
  simp only [List.length_cons] at hs
  omega

theorem split_any {w : World} (s : ByteArray) (hs : s.size ≤ 300) {m : Int} (hm : w.cell? ⟨0, 0, none⟩ = some (.int .i64 m)) : Calls Tryz.prog 6 #[.string s] w (SpA s.data.toList w) := by
  rcases path_kinds s with h | h | ⟨r, h, h0⟩
  · refine (split_no s h).mono ?_
    rintro e w' ⟨rfl, rfl⟩
    exact ⟨.inr ⟨splitP_no h, rfl, Keep.refl _ _⟩⟩
  · refine (split_root s h).mono ?_
    rintro e w' ⟨rfl, rfl⟩
    exact ⟨.inl ⟨[], _, by rw [h]; rfl, rfl, Seen.nil _ _, Keep.refl _ _⟩⟩
  · have hr := size_of_cons h hs
    rcases splitN_pieces r.data.toList with ⟨h8, hL⟩ | ⟨h8, h9⟩
    · refine (split_few s r hr h0 h hm h8 hL).mono ?_
      rintro e w' hh
      rcases hh.or with ⟨ha, hx⟩ | ⟨ha, rfl, hk⟩
      · obtain ⟨v, rfl, hv, hk⟩ := hx.ex
        exact ⟨.inl ⟨_, v, by rw [splitP_all h h0 ha, if_pos h8], rfl, hv, hk⟩⟩
      · refine ⟨.inr ⟨?_, rfl, hk⟩⟩
        rw [h, splitP, if_pos rfl, if_neg h0, if_neg (fun hh => by rw [ha] at hh; exact absurd hh.1 (by simp))]
    · refine (split_many s r hr h0 h hm h9).mono ?_
      rintro e w' ⟨rfl, hk⟩
      refine ⟨.inr ⟨?_, rfl, hk⟩⟩
      rw [h, splitP, if_pos rfl, if_neg h0, if_neg (fun hh => by omega)]

theorem refSplit_any {w : World} (s : ByteArray) (hs : s.size ≤ 300) : Calls Tryz.prog 7 #[.string s] w (RsA s.data.toList w) := by
  rcases path_kinds s with h | h | ⟨r, h, h0⟩
  · refine (refSplit_no s h).mono ?_
    rintro e w' ⟨rfl, rfl⟩
    exact ⟨.inr ⟨splitP_no h, _, rfl, Keep.refl _ _⟩⟩
  · refine (refSplit_root s h).mono ?_
    rintro e w' ⟨rfl, rfl⟩
    exact ⟨.inl ⟨[], _, by rw [h]; rfl, rfl, Seen.nil _ _, Keep.refl _ _⟩⟩
  · exact refSplit_names s r h h0 hs

theorem cut_any {w : World} (s : ByteArray) : Calls Tryz.prog 5 #[.string s, .int .i64 300] w fun e w' => ∃ t : ByteArray, t.size ≤ 300 ∧ e = .returned (.string t) ∧ w = w' := by
  by_cases h : 300 < s.size
  · have hd : decide (300 < (s.size : Int)) = true := by rw [decide_eq_true_eq]; omega
    have hz : (300 : Int) ≤ (s.size : Int) := by omega
    have HT : Hid ((s.extract 0 300).size ≤ 300) := Lib.hid (by simp [ByteArray.size_extract]; omega)
    have h3 : 300 ≤ s.size := by omega
    go_enter Tryz.func5, Tryz.ntmps5
    go_wp2
    go_ret
    exact ⟨_, HT.out, rfl, rfl⟩
  · have hd : decide (300 < (s.size : Int)) = false := by rw [decide_eq_false_iff_not]; omega
    have HT : Hid (s.size ≤ 300) := Lib.hid (by omega)
    go_enter Tryz.func5, Tryz.ntmps5
    go_wp2
    go_ret
    exact ⟨s, HT.out, rfl, rfl⟩

structure DsR (w0 : World) (n : Nat) (iv : Value) (wr : World) : Prop where
  ex : ∃ k : Nat, k ≤ n ∧ iv = .int .i64 (k : Int) ∧ Keep (fun _ => False) w0 wr

theorem scells_get {L : List (List UInt8)} {k : Nat} (hk : k < L.length) : (scells L)[k]? = some (.string ⟨L[k].toArray⟩) := by
  simp [scells, List.getElem?_eq_getElem hk]

set_option maxHeartbeats 4000000 in
theorem dirSplit_any {w : World} (s : ByteArray) {m : Int} (hm : w.cell? ⟨0, 0, none⟩ = some (.int .i64 m)) : Calls Tryz.prog 3 #[.string s] w fun e w' => e = .returned (.bool true) ∧ Keep (fun _ => False) w w' := by
  have HM := Lib.hid hm
  clear hm
  go_enter Tryz.func3, Tryz.ntmps3
  go_wp2_with (go_at_call 4; (with_reducible refine begun6_any.mono ?_); rintro e w1 ⟨rfl, k1⟩; have K1 := Lib.hid k1; have HM1 := Lib.hid ((k1.cell (World.block_lt_of_cell? _ _ HM.out) (fun h => h) _).trans HM.out); clear k1)
  refine (cut_any s).mono ?_
  rintro e w' ⟨t, ht, rfl, rfl⟩
  have HT := Lib.hid ht
  have HSP := Lib.hid (split_any t ht HM1.out)
  have HRS := Lib.hid (fun w : World => refSplit_any (w := w) t ht)
  clear ht
  go_wp2_with fail
  refine HSP.out.mono ?_
  rintro e w2 h2
  rcases h2.or with ⟨L, v, hL, rfl, hv, k2⟩ | ⟨hN, rfl, k2⟩
  · have HL := Lib.hid hL; have HV := Lib.hid hv; have K2 := Lib.hid (K1.out.trans k2 (fun _ h => h.elim))
    clear h2 hL hv k2
    go_wp2_with fail
    refine (HRS.out w2).mono ?_
    rintro e w3 h3
    rcases h3.or with ⟨L', v', hL', rfl, hv', k3⟩ | ⟨hN', _⟩
    · obtain rfl : L' = L := Option.some.inj (hL'.symm.trans HL.out)
      have K3 := Lib.hid (K2.out.trans k3 (fun _ h => h.elim)); have HV3 := Lib.hid (HV.out.keep k3 (fun _ _ _ h => h)); have HV' := Lib.hid hv'
      obtain ⟨_, a1, c1, rfl, hc1, hc1', h1⟩ := HV3.out
      obtain ⟨_, a2, c2, rfl, hc2, hc2', h2⟩ := HV'.out
      unfold maxLen at hc1' hc2'
      have H1 := Lib.hid h1; have H2 := Lib.hid h2
      have hne : ((L'.length : Int) != (L'.length : Int)) = false := by simp
      clear h3 hL' hv' k3 HL h1 h2
      go_wp2_with fail
      go_loopw [8] (fun iv wr => DsR w3 L'.length iv wr) (fun iv _ => L'.length - (intOf iv).toNat)
      case atStart => exact ⟨0, by omega, rfl, Keep.refl _ _⟩
      case round =>
        obtain ⟨k, hk, rfl, hKr⟩ := hrel.ex
        have HKR := Lib.hid hKr
        clear hrel hKr
        by_cases hlt : k < L'.length
        · have hd : decide (k < L'.length) = true := by rw [decide_eq_true_eq]; omega
          obtain ⟨g1, o1, rfl, hg1, q1⟩ := H1.out.resolve_left (by omega)
          obtain ⟨g2, o2, rfl, hg2, q2⟩ := H2.out.resolve_left (by omega)
          have z1 := (HKR.out.cell hg1 (fun h => h) _).trans (q1 k _ (scells_get hlt))
          have z2 := (HKR.out.cell hg2 (fun h => h) _).trans (q2 k _ (scells_get hlt))
          obtain ⟨nm, hnm⟩ : ∃ nm : ByteArray, nm = ⟨L'[k].toArray⟩ := ⟨_, rfl⟩
          rw [← hnm] at z1 z2
          clear q1 q2 hnm hg1 hg2
          have hq : (nm.toList != nm.toList) = false := by simp
          go_wp2_with fail
          go_region
          all_goals
            go_wp2_with fail
            go_roundw
            case rel => exact ⟨k + 1, by omega, by go_num, HKR.out.drew⟩
            case measure => simp [intOf]; omega
        · have hd : decide (k < L'.length) = false := by rw [decide_eq_false_iff_not]; omega
          go_wp2_with fail
          go_ret
          exact ⟨rfl, K3.out.trans HKR.out (fun _ h => h.elim)⟩
    · rw [HL.out] at hN'; cases hN'
  · have HN := Lib.hid hN; have K2 := Lib.hid (K1.out.trans k2 (fun _ h => h.elim))
    clear h2 hN k2
    go_wp2_with fail
    refine (HRS.out w2).mono ?_
    rintro e w3 h3
    rcases h3.or with ⟨L', v', hL', _⟩ | ⟨hN', v', rfl, k3⟩
    · rw [HN.out] at hL'; cases hL'
    · have K3 := Lib.hid (K2.out.trans k3 (fun _ h => h.elim))
      have hb : (mayB t.data.toList == mayB t.data.toList) = true := by simp
      clear h3 hN' k3
      go_wp2_with (first | (go_at_call 8; refine (isF_same _ (by rfl)).mono ?_; rintro e w' ⟨rfl, rfl⟩) | (go_at_call 9; (with_reducible refine (may_any _).mono ?_); rintro e w' ⟨rfl, rfl⟩) | (go_at_call 10; (with_reducible refine (refMay_any _).mono ?_); rintro e w' ⟨rfl, rfl⟩))
      go_ret
      exact ⟨rfl, K3.out⟩

end Go.Proofs.YtdkigiemhkoijaaGreatDoor.Dir
