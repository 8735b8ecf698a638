/- World files: the law of many rooms. -/
import Derived.Test.YtcodbomgodkcmaaGreatDoorDcN
import Derived.Test.YtcodbomgodkcmaaGreatDoorLinP
namespace Go.Proofs.YtcodbomgodkcmaaGreatDoor.Wd
open Go.RowKit Go.Maps Go.Proofs.YtcodbomgodkcmaaGreatDoor Go.Proofs.YtcodbomgodkcmaaGreatDoor.Lin Go.Sort
set_option maxRecDepth 100000

def roomsT (L : List Int) : List UInt8 := L.flatMap fun i => roomT i ++ [10]
theorem roomsT_app (A : List Int) (i : Int) : roomsT (A ++ [i]) = roomsT A ++ (roomT i ++ [10]) := by unfold roomsT; rw [List.flatMap_append]; simp
theorem parse_rooms {L : List Int} (hL : ∀ i ∈ L, 1 ≤ i ∧ i ≤ 1000) {s : ByteArray} (hs : s.data.toList = roomsT L) : parseU 0 (linesL s.data.toList) noDb = .inr (noDbR (L.map manyR)) := by
  rw [hs]
  unfold roomsT
  rw [linesL_rooms, parseU_rooms L 0 noDb hL]
  rfl
theorem parseBad_any {w : World} (hT : T12 w) {L : List Int} (hL : ∀ i ∈ L, 1 ≤ i ∧ i ≤ 1000) {s : ByteArray} (hs : s.data.toList = roomsT L) (hz : s.size ≤ 1000000) (hb : 60 < L.length ∨ ¬ L.Nodup) :
    Calls Tryz.prog 8 #[.string s] w fun e w' => e = .returned (.tuple #[.pointer none, apiErr 13]) ∧ Keep (fun _ => False) w w' := by
  refine (parse_any hT s hz).mono fun e w' h => ?_
  rw [parse_rooms hL hs] at h
  obtain ⟨hk, ⟨k, b, h, _⟩ | ⟨D, M, h, hs, hc, he⟩ | ⟨D, M, d, v1, v2, v3, v4, v5, v6, rr, ss, h, hs, hc, he, ho⟩⟩ := h
  · cases h
  · cases h; rw [many_bad (N := sortN M) hs.sorted hb] at he; exact ⟨he, hk⟩
  · cases h; rw [many_bad (N := sortN M) hs.sorted hb] at hc; cases hc
theorem parseFine_any {w : World} (hT : T12 w) {n : Nat} (h1 : 1 ≤ n) (h2 : n ≤ 60) {s : ByteArray} (hs : s.data.toList = roomsT (downs n)) (hz : s.size ≤ 1000000) :
    Calls Tryz.prog 8 #[.string s] w fun e w' => ∃ d g off cap, e = .returned (.tuple #[.pointer (some ⟨d, 0, none⟩), .nilIface]) ∧ w'.cell? ⟨d, 0, none⟩ = some (.slice (some ⟨g, off, none⟩) n cap) ∧ n ≤ cap ∧ cap ≤ maxLen ∧ w'.cell? ⟨g, off, none⟩ = some (.int .i64 1) ∧ Keep (fun _ => False) w w' := by
  refine (parse_any hT s hz).mono fun e w' h => ?_
  rw [parse_rooms (fun i hi => by have := (downs_mem n i).1 hi; omega) hs] at h
  obtain ⟨hk, ⟨k, b, h, _⟩ | ⟨D, M, h, hs, hc, he⟩ | ⟨D, M, d, v1, v2, v3, v4, v5, v6, rr, ss, h, hs, hc, he, ho⟩⟩ := h
  · cases h
  · cases h; exact absurd (many_fine h1 h2 (N := sortN M) hs.sorted).1 hc
  · cases h
    obtain ⟨_, hl, x, hx, hx1⟩ := many_fine h1 h2 (N := sortN M) hs.sorted
    have hr := ho.v.l1
    obtain ⟨g, off, cap, hv, hn, hm⟩ := hr.row.full (by omega)
    rw [hv] at ho hr
    rw [hl] at ho hr hn
    refine ⟨d, g, off, cap, he, (cell_of_row w' d 0 _ _ _ ho.v.blk).trans rfl, hn, hm, ?_, hk⟩
    have := hr.range roomC_len 0 x hx 0 (.int .i64 x.id) rfl
    rw [hx1] at this
    simpa using this

/-- The text of the rooms from n down to k + 1. -/
structure MaR (n : Nat) (w0 : World) (sv iv : Value) (wr : World) : Prop where
  ex : ∃ (k : Nat) (A : List Int) (s : ByteArray), sv = .string s ∧ iv = .int .i64 (k : Int) ∧ k ≤ n ∧ A ++ downs k = downs n ∧ s.data.toList = roomsT A ∧ s.size + 40 * k ≤ 40 * n ∧ Keep (fun _ => False) w0 wr

abbrev roomOneB : ByteArray := ⟨#[114, 111, 111, 109, 32, 49, 32, 114, 32, 112, 108, 97, 105, 110, 32, 48, 32, 49, 32, 48, 32, 48, 32, 48, 32, 48, 32, 48, 10]⟩
theorem roomT_one : roomT 1 ++ [10] = [114, 111, 111, 109, 32, 49, 32, 114, 32, 112, 108, 97, 105, 110, 32, 48, 32, 49, 32, 48, 32, 48, 32, 48, 32, 48, 32, 48, 10] := by
  unfold roomT printL
  rw [if_neg (by omega), show (1 : Int).natAbs = 1 from rfl, decL_lt (by omega)]
  rfl
theorem many_next {s t : ByteArray} {A : List Int} {i : Int} (hs : s.data.toList = roomsT A) (ht : t.data.toList = printL i) :
    (s ++ (⟨#[114, 111, 111, 109, 32]⟩ ++ t ++ ⟨#[32, 114, 32, 112, 108, 97, 105, 110, 32, 48, 32, 49, 32, 48, 32, 48, 32, 48, 32, 48, 32, 48, 10]⟩)).data.toList = roomsT (A ++ [i]) := by
  rw [roomsT_app, ← hs]
  simp [ht, roomT, roomA, roomZ]
theorem many_size (s t : ByteArray) : (s ++ ((⟨#[114, 111, 111, 109, 32]⟩ : ByteArray) ++ t ++ ⟨#[32, 114, 32, 112, 108, 97, 105, 110, 32, 48, 32, 49, 32, 48, 32, 48, 32, 48, 32, 48, 32, 48, 10]⟩)).size = s.size + (28 + t.size) := by
  rw [ByteArray.size_append, ByteArray.size_append, ByteArray.size_append]
  have h1 : (⟨#[114, 111, 111, 109, 32]⟩ : ByteArray).size = 5 := rfl
  have h2 : (⟨#[32, 114, 32, 112, 108, 97, 105, 110, 32, 48, 32, 49, 32, 48, 32, 48, 32, 48, 32, 48, 32, 48, 10]⟩ : ByteArray).size = 23 := rfl
  omega

set_option maxHeartbeats 4000000 in
theorem many_any {w : World} (hT : T12 w) (hg : w.cell? ⟨0, 0, none⟩ = some (.iface 146 (.agg #[.pointer (some ⟨Tryz.prog.globals.size, 26, none⟩)]))) (n : Int) (b : Bool) :
    Calls Tryz.prog 5 #[.int .i64 n, .bool b] w fun e w' => e = .returned (.bool true) ∧ Keep (fun _ => False) w w' := by
  have HT := Lib.hid hT
  have HB := Lib.hid (begun_any hT hg)
  have I13 := Lib.hid (fun w => Ino.isF_same 13 (by decide) (w := w))
  simp only [apiErr] at I13
  clear hT hg
  by_cases hn : n < 1 ∨ 70 < n
  · rcases hn with hn | hn
    · have d1 : decide (n < 1) = true := by simpa using hn
      go_enter Tryz.func5, Tryz.ntmps5
      go_wp2_with (go_at_call 6; (with_reducible refine HB.out.mono ?_); rintro e w1 ⟨rfl, k1⟩; have K := Lib.hid k1; clear k1)
      go_ret
      exact ⟨rfl, K.out⟩
    · have d1 : decide (n < 1) = false := by rw [decide_eq_false_iff_not]; omega
      have d2 : decide (70 < n) = true := by simpa using hn
      go_enter Tryz.func5, Tryz.ntmps5
      go_wp2_with (go_at_call 6; (with_reducible refine HB.out.mono ?_); rintro e w1 ⟨rfl, k1⟩; have K := Lib.hid k1; clear k1)
      go_ret
      exact ⟨rfl, K.out⟩
  · obtain ⟨m, rfl⟩ : ∃ m : Nat, n = (m : Int) := ⟨n.toNat, by omega⟩
    have d1 : decide ((m : Int) < 1) = false := by rw [decide_eq_false_iff_not]; omega
    have d2 : decide (70 < (m : Int)) = false := by rw [decide_eq_false_iff_not]; omega
    go_enter Tryz.func5, Tryz.ntmps5
    go_wp2_with (go_at_call 6; (with_reducible refine HB.out.mono ?_); rintro e w1 ⟨rfl, k1⟩; have K := Lib.hid k1; clear k1)
    go_loopw [6, 7] (fun sv iv wr => MaR m w sv iv wr) (fun _ iv _ => (intOf iv).toNat)
    case atStart => exact ⟨m, [], ⟨#[]⟩, rfl, rfl, Nat.le_refl _, rfl, rfl, by show 0 + 40 * m ≤ 40 * m; omega, K.out⟩
    case round =>
      obtain ⟨k, A, s, rfl, rfl, hk, hA, hs, hz, hK⟩ := hrel.ex
      have HK := Lib.hid hK; have HA := Lib.hid hA; have HS := Lib.hid hs; have HZ := Lib.hid hz
      have hm70 : m ≤ 70 := by omega
      have hsz : s.size ≤ 3000 := by omega
      clear hK hA hs hz hrel
      by_cases hk1 : 1 ≤ k
      · obtain ⟨j, rfl⟩ : ∃ j, k = j + 1 := ⟨k - 1, by omega⟩
        have d3 : decide (1 ≤ ((j + 1 : Nat) : Int)) = true := by rw [decide_eq_true_eq]; omega
        have hpl : ∀ t : ByteArray, t.data.toList = printL ((j + 1 : Nat) : Int) → t.size ≤ 2 := fun t ht => by
          have e : t.size = t.data.toList.length := by simp
          rw [e, ht]
          unfold printL
          rw [if_neg (by omega)]
          exact decL_len 1 _ (by omega)
        have HPL := Lib.hid hpl
        clear hpl
        go_wp2_with (go_at_call 14; (with_reducible refine (refPrint_any _ (by omega) (by omega)).mono ?_); rintro e w2 ⟨⟨t, rfl, ht⟩, k2⟩; have HTX := Lib.hid ht; have htz := HPL.out t ht; have K2 := Lib.hid (HK.out.trans k2 (fun _ h => h.elim)); clear ht k2)
        go_roundw
        case rel => exact ⟨j, A ++ [((j + 1 : Nat) : Int)], _, rfl, rfl, by omega, by rw [List.append_assoc]; exact HA.out, many_next HS.out HTX.out, by have := HZ.out; have := many_size s t; omega, K2.out⟩
        case measure => simp [intOf]
      · obtain rfl : k = 0 := by omega
        have hA : A = downs m := by have := HA.out; rwa [show downs 0 = [] from rfl, List.append_nil] at this
        have hs := HS.out
        rw [hA] at hs
        have HTW := Lib.hid (T12.keep0 HT.out HK.out)
        cases b with
        | true =>
          have HP := Lib.hid (parseBad_any HTW.out (L := downs m ++ [1]) (s := s ++ roomOneB) (fun i hi => by
            rcases List.mem_append.1 hi with hi | hi
            · have := (downs_mem m i).1 hi; omega
            · rw [List.mem_singleton.1 hi]; omega) (by rw [roomsT_app, ← hs, roomT_one]; simp) (by rw [ByteArray.size_append]; have : roomOneB.size = 29 := rfl; omega) (.inr (fun hd => by
              have h1 : (1 : Int) ∈ downs m := (downs_mem m 1).2 (by omega)
              exact (List.nodup_append.1 hd).2.2 1 h1 1 (by simp) rfl)))
          simp only [roomOneB, apiErr] at HP
          clear hA hs
          go_wp2_with (first
            | (go_at_call 8; (with_reducible refine HP.out.mono ?_); rintro e w2 ⟨rfl, k2⟩; have K2 := Lib.hid (HK.out.trans k2 (fun _ h => h.elim)); clear k2)
            | (go_at_call 11; (with_reducible refine (I13.out _).mono ?_); rintro e w' ⟨rfl, rfl⟩))
          all_goals go_ret
          all_goals exact ⟨rfl, K2.out⟩
        | false =>
          by_cases h60 : 60 < m
          · have d4 : decide (60 < (m : Int)) = true := by rw [decide_eq_true_eq]; omega
            have HP := Lib.hid (parseBad_any HTW.out (L := downs m) (s := s) (fun i hi => by have := (downs_mem m i).1 hi; omega) hs (by omega) (.inl (by rw [downs_len]; exact h60)))
            simp only [apiErr] at HP
            clear hA hs
            go_wp2_with (first
              | (go_at_call 8; (with_reducible refine HP.out.mono ?_); rintro e w2 ⟨rfl, k2⟩; have K2 := Lib.hid (HK.out.trans k2 (fun _ h => h.elim)); clear k2)
              | (go_at_call 11; (with_reducible refine (I13.out _).mono ?_); rintro e w' ⟨rfl, rfl⟩))
            all_goals go_ret
            all_goals exact ⟨rfl, K2.out⟩
          · have d4 : decide (60 < (m : Int)) = false := by rw [decide_eq_false_iff_not]; omega
            have HP := Lib.hid (parseFine_any HTW.out (n := m) (by omega) (by omega) (s := s) hs (by omega))
            clear hA hs
            have hm1 : 1 ≤ m := by omega
            have d5 : decide (0 < m) = true := by rw [decide_eq_true_eq]; omega
            go_wp2_with (go_at_call 8; (with_reducible refine HP.out.mono ?_); rintro e w2 ⟨dd, g, off, cap, rfl, cd, hc1, hc2, cg, k2⟩; unfold maxLen at hc2; have K2 := Lib.hid (HK.out.trans k2 (fun _ h => h.elim)); clear k2)
            all_goals go_ret
            all_goals exact ⟨rfl, K2.out⟩
end Go.Proofs.YtcodbomgodkcmaaGreatDoor.Wd
