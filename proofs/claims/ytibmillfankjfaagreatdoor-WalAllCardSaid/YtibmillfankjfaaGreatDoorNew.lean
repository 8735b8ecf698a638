/- What New makes. -/
import Derived.Test.YtibmillfankjfaaGreatDoorMul
namespace Go.Proofs.YtibmillfankjfaaGreatDoor
set_option maxRecDepth 100000
open Go.RowKit

def zeroBytes (n : Nat) : ByteArray := ⟨(List.replicate n (0 : UInt8)).toArray⟩

theorem zeroBytes_size (n : Nat) : (zeroBytes n).size = n := by simp [zeroBytes, ByteArray.size]

def zeroSec : ByteArray := zeroBytes 512

theorem zeroSec_size : zeroSec.size = 512 := zeroBytes_size 512

theorem bytesAt_row {w : World} {g off n cap : Nat} {e : TypeId} {l : List UInt8} (h : Row w e 1 (.slice (some ⟨g, off, none⟩) n cap) n (l.map fun b => Value.int .u8 (b.toNat : Int))) : BytesAt w g off l := by
  intro j hj
  have hl := h.1
  simp only [List.length_map] at hl
  rw [h.cellAt j (by omega)]
  simp [List.getElem?_eq_getElem hj]

theorem bytesAt_made {w : World} {g n cap : Nat} {e : TypeId} (h : Row w e 1 (.slice (some ⟨g, 0, none⟩) n cap) n (madeCells #[Value.int .u8 0] n).toList) : BytesAt w g 0 (List.replicate n (0 : UInt8)) := by
  rw [toList_madeCells_one] at h
  exact bytesAt_row (by simpa using h)

theorem zeros_string {P : Program} {w : World} {g n cap : Nat} {e : TypeId} (h : Row w e 1 (.slice (some ⟨g, 0, none⟩) n cap) n (madeCells #[Value.int .u8 0] n).toList) (src dst : TypeId)
    (hs : P.underlying src = some (.slice e)) (he : P.underlying e = some (.int .u8)) (hd : P.underlying dst = some .string) :
    (convert src dst (.slice (some ⟨g, 0, none⟩) n cap)).run P w = .ok (.string (zeroBytes n)) w :=
  run_string_of_bytes (bytesAt_made h) src dst e n cap (by simp) hs he hd

theorem new_out {w : World} (n : Int) (h : n < 1 ∨ 4096 < n) :
    Calls Tryz.prog 5 #[.int .i64 n] w fun e w' => e = .returned (.pointer none) ∧ w = w' := by
  rcases h with h | h
  · go_enter Tryz.func5, Tryz.ntmps5
    go_wp2
    go_ret
    exact ⟨rfl, rfl⟩
  · have h1 : ¬ n < 1 := by omega
    go_enter Tryz.func5, Tryz.ntmps5
    go_wp2
    go_ret
    exact ⟨rfl, rfl⟩

set_option maxHeartbeats 1000000 in
theorem new_any {w : World} (n : Nat) (h1 : 1 ≤ n) (h2 : n ≤ 4096) :
    Calls Tryz.prog 5 #[.int .i64 n] w fun e w' => ∃ p vl vn, e = .returned (.pointer (some ⟨p, 0, none⟩)) ∧ IsDisk w' p vl vn (.slice none 0 0) (Dk.fresh (List.replicate n zeroSec)) ∧ Keep (fun _ => False) w w' ∧
      (∀ b, diskOf p vl vn (.slice none 0 0) b → w.heap.size ≤ b ∧ b < w'.heap.size) := by
  obtain ⟨i0, hi0, hz0, hz1, hz2⟩ := info_parts Tryz.infoB
  go_enter Tryz.func5, Tryz.ntmps5
  go_wp2_with (first | (at_make; go_loud (refine wpList_make_row rfl (.const (.int .i64 512)) (.const (.int .i64 512)) rfl Tryz.underlying35 hi0 hz0 hz1 hz2 512 rfl rfl rfl rfl (by omega) (by simp [maxLen]) ?mk)))
  case mk =>
    intro w1 hrow hk hlt
    have hcv : (convert 35 9 (.slice (some ⟨w.heap.size, 0, none⟩) 512 512)).run Tryz.prog w1 = .ok (.string zeroSec) w1 := zeros_string (P := Tryz.prog) hrow 35 9 Tryz.underlying35 Tryz.underlying5 Tryz.underlying9
    have hK := Lib.hid hk
    clear hrow hk
    go_wp2_with (first | (go_at_call 17; refine (repeat_any (s := zeroSec) (Row.made #[Value.string zeroSec] _ 1 rfl (by simp [maxLen]) rfl) n h1 (by omega)).mono ?_; rintro e w2 ⟨v, rfl, hrow, hk, hown⟩; have HR := Lib.hid hrow; have HK := Lib.hid hk; have HO := Lib.hid hown; clear hrow hk hown hcv) | (go_at_call 16; refine (holding_any (l := List.replicate n zeroSec) (by simpa using HR.out) (by simp; omega) (by simp; omega) (by intro s hs; rw [List.eq_of_mem_replicate hs]; exact zeroSec_size)).mono ?_; rintro e w3 ⟨p, vn, rfl, hd, hk3, ho3⟩; have HD := Lib.hid hd; have HK3 := Lib.hid hk3; have HO3 := Lib.hid ho3; clear hd hk3 ho3))
    go_ret
    have s1 := hK.out.size
    have s2 := HK.out.size
    have s3 := HK3.out.size
    simp only [World.size_alloc] at s2
    refine ⟨p, v, vn, rfl, HD.out, ((hK.out.alloc _).trans HK.out (fun _ h => h.elim)).trans HK3.out (fun _ h => h.elim), fun b hb => ?_⟩
    rcases hb with rfl | hb | hb | hb
    · have := HO3.out b (.inl rfl); omega
    · have := HO.out b hb; simp only [World.size_alloc] at this; omega
    · have := HO3.out b (.inr hb); omega
    · simp [Value.ownBlock] at hb

end Go.Proofs.YtibmillfankjfaaGreatDoor
