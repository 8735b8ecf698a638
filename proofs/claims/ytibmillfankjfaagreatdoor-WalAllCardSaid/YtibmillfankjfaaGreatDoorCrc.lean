/- What crc.More and crc.Sum do, and the reference's sum, bit by bit: each is crcMore of the bytes. -/
import Derived.Test.YtibmillfankjfaaGreatDoorRow
import Derived.Test.YtibmillfankjfaaGreatDoorArgs
import Derived.Test.YtibmillfankjfaaGreatDoorCrcM
namespace Go.Proofs.YtibmillfankjfaaGreatDoor
set_option maxRecDepth 100000
open Go.RowKit

/-- The table of crc lies where the program lays it. -/
def Tab (w : World) : Prop := ∀ i, i < 16 → w.cell? ⟨1, i, none⟩ = some (.int .u32 (tabAt i : Int))

theorem Tab.lt {w : World} (h : Tab w) : 1 < w.heap.size := World.block_lt_of_cell? _ _ (h 0 (by omega))

theorem Tab.keep {F : Nat → Prop} {w w' : World} (h : Tab w) (hk : Keep F w w') (hF : ¬ F 1) : Tab w' :=
  fun i hi => (hk.cell h.lt hF i).trans (h i hi)

structure NibIs (w : World) (r d t r' : Nat) : Prop where
  and : bits .and .u32 (r : Int) 15 = (d : Int)
  lt : d < 16
  cell : w.cell? ⟨1, d, none⟩ = some (.int .u32 (t : Int))
  xor : bits .xor .u32 ((r : Int) / 16) (t : Int) = (r' : Int)
  is : r' = nib r

theorem nib_is {w : World} (hT : Tab w) (r : Nat) (hr : r < 4294967296) : ∃ d t r', NibIs w r d t r' :=
  ⟨r % 16, tabAt (r % 16), nib r, u32_and15 hr, by omega, hT _ (by omega), u32_nib hr, rfl⟩

set_option maxHeartbeats 1000000 in
theorem more_any {w : World} {vb : Value} {l : List UInt8} (hT : Tab w) (h : Seen w 1 vb l.length (bcells l)) (s : Nat) (hs : s < 4294967296) :
    Calls Tryz.prog 59 #[.int .u32 (s : Int), vb] w fun e w' => e = .returned (.int .u32 (crcMore s l : Int)) ∧ w = w' := by
  have HS := Lib.hid h
  have HT := Lib.hid hT
  obtain ⟨_, ab, cap, rfl, hlc, hcm, _⟩ := h
  unfold maxLen at hcm
  clear hT
  have hn := u32_not hs
  obtain ⟨s', hs'⟩ : ∃ s', s' = not32 s := ⟨_, rfl⟩
  rw [← hs'] at hn
  have HN := Lib.hid hs'
  clear hs'
  go_enter Tryz.func59, Tryz.ntmps59
  go_wp2
  clear hn
  go_loop [5, 12] (fun r i => ∃ k : Nat, k ≤ l.length ∧ i = .int .i64 k ∧ r = .int .u32 (crcRun s' (l.take k) : Int)) (fun _ i => l.length - (intOf i).toNat)
  case atStart => exact ⟨0, by omega, rfl, rfl⟩
  case round =>
    obtain ⟨k, hk1, rfl, rfl⟩ := hrel
    by_cases t1 : k < l.length
    · obtain ⟨_, _, _, hv, _, _, hc⟩ := HS.out
      simp only [Value.slice.injEq] at hv
      obtain ⟨rfl, _, rfl⟩ := hv
      obtain ⟨gb, ob, rfl, hgb, hcb⟩ := hc.resolve_left (by omega)
      have c0 : w.cell? ⟨gb, ob + k, none⟩ = some (.int .u8 (l[k].toNat : Int)) := hcb k _ (by simp [bcells, List.getElem?_eq_getElem t1])
      have hst := crcRun_take s' l k t1
      have hr : crcRun s' (l.take k) < 4294967296 := crcRun_lt _ (by rw [HN.out]; exact not32_lt s)
      rw [upd_nib] at hst
      have hx := u32_byte hr l[k]
      have hr1 := xor_byte_lt hr l[k]
      generalize crcRun s' (l.take k) = r at *
      generalize l[k] = byt at *
      obtain ⟨r1, hr1e⟩ : ∃ r1, r1 = r ^^^ byt.toNat := ⟨_, rfl⟩
      rw [← hr1e] at hx hr1 hst
      clear hr1e
      obtain ⟨d1, u1, r2, N1⟩ := nib_is HT.out r1 hr1
      have hr2 := nib_lt hr1
      rw [← N1.is] at hr2 hst
      obtain ⟨d2, u2, r3, N2⟩ := nib_is HT.out r2 hr2
      rw [← N2.is] at hst
      have HST := Lib.hid hst
      obtain ⟨a1, b1, e1, f1, -⟩ := N1
      obtain ⟨a2, b2, e2, f2, -⟩ := N2
      clear hst hc hcb
      go_wp2
      go_round
      case rel => exact ⟨k + 1, by omega, by go_num, by rw [HST.out]⟩
      case measure => simp [intOf]; omega
    · obtain rfl : k = l.length := by omega
      have hr : crcRun s' (l.take l.length) < 4294967296 := crcRun_lt _ (by rw [HN.out]; exact not32_lt s)
      have hn2 := u32_not hr
      have HE : Hid (not32 (crcRun s' (l.take l.length)) = crcMore s l) := Lib.hid (by rw [List.take_length, HN.out]; rfl)
      generalize crcRun s' (l.take l.length) = r at *
      generalize not32 r = r' at *
      go_wp2
      go_ret
      obtain rfl := HE.out
      exact ⟨rfl, rfl⟩

/-- A list of lists of bytes, as a slice of slices that may be read. -/
def Parts (w : World) (v : Value) (ls : List (List UInt8)) : Prop :=
  ∃ vals : List Value, Seen w 1 v ls.length vals ∧ ∀ j (h : j < ls.length), ∃ u, vals[j]? = some u ∧ Seen w 1 u ls[j].length (bcells ls[j])

theorem Parts.nil (w : World) : Parts w (.slice none 0 0) [] := ⟨[], Seen.nil _ _, fun j h => by simp at h⟩

theorem foldl_take (ls : List (List UInt8)) (k : Nat) (h : k < ls.length) (s : Nat) : (ls.take (k + 1)).foldl crcMore s = crcMore ((ls.take k).foldl crcMore s) ls[k] := by
  rw [List.take_succ_eq_append_getElem h, List.foldl_append]; rfl

theorem foldl_lt : ∀ (ls : List (List UInt8)) {s : Nat}, s < 4294967296 → ls.foldl crcMore s < 4294967296
  | [], _, h => h
  | _ :: ls, _, _ => foldl_lt ls (crcMore_lt _ _)

set_option maxHeartbeats 1000000 in
theorem sum_any {w : World} {v : Value} {ls : List (List UInt8)} (hT : Tab w) (h : Parts w v ls) :
    Calls Tryz.prog 58 #[v] w fun e w' => e = .returned (.int .u32 (crcMore 0 ls.flatten : Int)) ∧ w = w' := by
  obtain ⟨vals, h, hp⟩ := h
  have HS := Lib.hid h
  have HP := Lib.hid hp
  have HT := Lib.hid hT
  obtain ⟨_, av, cap, rfl, hlc, hcm, _⟩ := h
  unfold maxLen at hcm
  clear hT hp
  go_enter Tryz.func58, Tryz.ntmps58
  go_wp2
  go_loop [3, 8] (fun r i => ∃ k : Nat, k ≤ ls.length ∧ i = .int .i64 k ∧ r = .int .u32 ((ls.take k).foldl crcMore 0 : Nat)) (fun _ i => ls.length - (intOf i).toNat)
  case atStart => exact ⟨0, by omega, rfl, rfl⟩
  case round =>
    obtain ⟨k, hk1, rfl, rfl⟩ := hrel
    by_cases t1 : k < ls.length
    · obtain ⟨_, _, _, hv, _, _, hc⟩ := HS.out
      simp only [Value.slice.injEq] at hv
      obtain ⟨rfl, _, rfl⟩ := hv
      obtain ⟨gb, ob, rfl, hgb, hcb⟩ := hc.resolve_left (by omega)
      obtain ⟨u, hu, hus⟩ := HP.out k t1
      have c0 : w.cell? ⟨gb, ob + k, none⟩ = some u := hcb k _ hu
      have HU := Lib.hid hus
      have hr : (ls.take k).foldl crcMore 0 < 4294967296 := foldl_lt _ (by omega)
      have HST := Lib.hid (foldl_take ls k t1 0)
      generalize (ls.take k).foldl crcMore 0 = r at *
      clear hc hcb hu hus
      go_wp2_with (go_at_call 59; refine (more_any HT.out HU.out r hr).mono ?_; rintro e w' ⟨rfl, rfl⟩)
      go_round
      case rel => exact ⟨k + 1, by omega, by go_num, by rw [HST.out]⟩
      case measure => simp [intOf]; omega
    · obtain rfl : k = ls.length := by omega
      have HE : Hid ((ls.take ls.length).foldl crcMore 0 = crcMore 0 ls.flatten) := Lib.hid (by rw [List.take_length]; exact crc_parts ls (by omega))
      generalize (ls.take ls.length).foldl crcMore 0 = r' at *
      go_wp2
      go_ret
      obtain rfl := HE.out
      exact ⟨rfl, rfl⟩

end Go.Proofs.YtibmillfankjfaaGreatDoor
