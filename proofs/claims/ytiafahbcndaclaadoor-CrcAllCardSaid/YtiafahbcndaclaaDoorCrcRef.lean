/- The reference's sum, bit by bit, is crcMore of the bytes. -/
import Derived.Test.YtiafahbcndaclaaDoorCrc
namespace Go.Proofs.YtiafahbcndaclaaDoor
open Go.RowKit

def bitN : Nat → Nat → Nat
  | 0, r => r
  | j + 1, r => bit1 (bitN j r)

theorem bitN_lt : ∀ (j : Nat) {r : Nat}, r < 4294967296 → bitN j r < 4294967296
  | 0, _, h => h
  | j + 1, _, h => bit1_lt (bitN_lt j h)

theorem bitN_8 (r : Nat) : bitN 8 r = bits8 r := rfl

set_option maxHeartbeats 1000000 in
theorem refMore_any {w : World} {vb : Value} {l : List UInt8} (h : Seen w 1 vb l.length (bcells l)) (s : Nat) (hs : s < 4294967296) :
    Calls Tryd.prog 8 #[.int .u32 (s : Int), vb] w fun e w' => e = .returned (.int .u32 (crcMore s l : Int)) ∧ w = w' := by
  have HS := Lib.hid h
  obtain ⟨_, ab, cap, rfl, hlc, hcm, _⟩ := h
  unfold maxLen at hcm
  have hn := u32_not hs
  obtain ⟨s', hs'⟩ : ∃ s', s' = not32 s := ⟨_, rfl⟩
  rw [← hs'] at hn
  have HN := Lib.hid hs'
  clear hs'
  go_enter Tryd.func8, Tryd.ntmps8
  go_wp2
  clear hn
  go_loop [5, 6] (fun r i => ∃ k : Nat, k ≤ l.length ∧ i = .int .i64 k ∧ r = .int .u32 (crcRun s' (l.take k) : Int)) (fun _ i => l.length - (intOf i).toNat)
  case atStart => exact ⟨0, by omega, rfl, rfl⟩
  case round =>
    obtain ⟨k, hk1, rfl, rfl⟩ := hrel
    by_cases t1 : k < l.length
    · obtain ⟨_, _, _, hv, _, _, hc⟩ := HS.out
      simp only [Value.slice.injEq] at hv
      obtain ⟨rfl, _, rfl⟩ := hv
      obtain ⟨gb, ob, rfl, hgb, hcb⟩ := hc.resolve_left (by omega)
      have c0 : w.cell? ⟨gb, ob + k, none⟩ = some (.int .u8 (l[k].toNat : Int)) := hcb k _ (by simp [bcells, List.getElem?_eq_getElem t1])
      have hst := crcRun_take s' l k t1
      have hr : crcRun s' (l.take k) < 4294967296 := crcRun_lt _ (by rw [HN.out]; exact not32_lt s)
      have hx := u32_byte hr l[k]
      have hr1 := xor_byte_lt hr l[k]
      unfold upd at hst
      rw [← bitN_8] at hst
      generalize crcRun s' (l.take k) = r at *
      generalize l[k] = byt at *
      obtain ⟨r1, hr1e⟩ : ∃ r1, r1 = r ^^^ byt.toNat := ⟨_, rfl⟩
      rw [← hr1e] at hx hr1 hst
      clear hr1e
      have HST := Lib.hid hst
      clear hst hc hcb
      go_wp2
      clear c0 hx
      go_loop [5, 7] (fun r j => ∃ m : Nat, m ≤ 8 ∧ j = .int .i64 m ∧ r = .int .u32 (bitN m r1 : Int)) (fun _ j => 8 - (intOf j).toNat)
      case atStart => exact ⟨0, by omega, rfl, rfl⟩
      case round =>
        obtain ⟨m, hm1, rfl, rfl⟩ := hrel
        by_cases t2 : m < 8
        · have hq := bitN_lt m hr1
          have HB : Hid (bitN (m + 1) r1 = bit1 (bitN m r1)) := Lib.hid rfl
          generalize bitN m r1 = q at *
          by_cases t3 : q % 2 = 1
          · have hb := u32_bit hq t3
            have HX := Lib.hid (bit1_lt hq)
            have HT3 := Lib.hid t3
            have t4 : (q : Int) % 2 = 1 := by omega
            clear t3
            go_wp2
            go_round
            case rel => exact ⟨m + 1, by omega, by go_num, by rw [HB.out]⟩
            case measure => simp [intOf]; omega
          · have hb := bit1_even t3
            have HX := Lib.hid (bit1_lt hq)
            have t4 : (q : Int) % 2 = 0 := by omega
            have HB2 := Lib.hid hb
            clear t3 hb
            go_wp2
            go_round
            case rel => exact ⟨m + 1, by omega, by go_num, by rw [HB.out, ← HB2.out]⟩
            case measure => simp [intOf]; omega
        · obtain rfl : m = 8 := by omega
          go_wp2
          go_round
          case rel => exact ⟨k + 1, by omega, by go_num, by rw [HST.out]⟩
          case measure => simp [intOf]; omega
    · obtain rfl : k = l.length := by omega
      have hr : crcRun s' (l.take l.length) < 4294967296 := crcRun_lt _ (by rw [HN.out]; exact not32_lt s)
      have hn2 := u32_not hr
      have HE : Hid (not32 (crcRun s' (l.take l.length)) = crcMore s l) := Lib.hid (by rw [List.take_length, HN.out]; rfl)
      generalize crcRun s' (l.take l.length) = r at *
      generalize not32 r = r' at *
      go_wp2
      go_ret
      obtain rfl := HE.out
      exact ⟨rfl, rfl⟩

end Go.Proofs.YtiafahbcndaclaaDoor
