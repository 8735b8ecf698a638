/- Texts: strings.Lines hands over the pieces with their ends, one behind the other. -/
import Derived.Test.YtcodbomgodkcmaaGreatDoorLinX
import Derived.Test.YtcodbomgodkcmaaGreatDoorLinW2
import Derived.Test.YtcodbomgodkcmaaGreatDoorRgB
import Derived.RangeFuncBound
import Derived.RangeFuncCalls
import Derived.RangeFuncBox
import Derived.Shelf.Abstract
import Derived.Shelf.RegionOpen
import Derived.OwnWalkIn
import Derived.TacticsInMore
import Derived.LoopNIn
import Derived.LoopIn
namespace Go.Proofs.YtcodbomgodkcmaaGreatDoor.Lin
open Go.RowKit Go.Maps Go.Proofs.YtcodbomgodkcmaaGreatDoor Go.Shelf
set_option maxRecDepth 100000
attribute [local go_sem] Oper.semAt_some

/-- How long is the text in a box? -/
def boxLen (w : World) (B : Nat) : Nat := match w.cell? ⟨B, 0, none⟩ with
  | some (.string s) => s.size
  | _ => 0

theorem i64_nat (n : Nat) (h : n < 9223372036854775808) : IntKind.i64.wrap (n : Int) = (n : Int) := by
  simp [IntKind.wrap, IntKind.bits, IntKind.signed]; omega

theorem str_ne {r : List UInt8} (h : r ≠ []) : 0 < r.length := List.length_pos_iff.2 h

set_option maxHeartbeats 4000000 in
theorem linesSeq_any (n : Nat) (hn : 1 ≤ n) (Bs : Nat) (s : List UInt8) (hs : s.length ≤ 1000000) (w : World) (hb : Boxed w Bs 9 (.string ⟨s.toArray⟩)) :
    HandsAll Fence.wide n Tryz.prog 89 #[.pointer (some ⟨Bs, 0, none⟩)] (fun x : List UInt8 => #[Value.string ⟨x.toArray⟩]) Bs (rawGo [] s) w := by
  intro l J W hW hJ hY h0
  have hBW : Boxed W Bs 9 (.string ⟨s.toArray⟩) := hW.trans hb
  have HJ := Lib.hid hJ
  have HY := Lib.hid hY
  clear hJ hY hW hb
  refine callsIn_of_wp Tryz.func89 rfl trivial ?_ rfl
  simp only [Tryz.ntmps89, List.size_toArray, List.length_cons, List.length_nil, Nat.reduceAdd, Nat.reduceSub, Array.replicate_succ, Array.replicate_zero, List.push_toArray, List.append_toArray, List.nil_append, List.cons_append]
  gi_wp2
  gi_loopw [3] (fun _ wr => ∃ (pre : List (List UInt8)) (r : List UInt8), rawGo [] s = pre ++ rawGo [] r ∧ r.length ≤ 1000000 ∧ Boxed wr Bs 9 (.string ⟨r.toArray⟩) ∧ J pre wr) (fun _ wr => boxLen wr Bs)
  case atStart => exact ⟨[], s, rfl, hs, hBW, h0⟩
  case round =>
    obtain ⟨pre, r, hx, hrl, hbr, hJr⟩ := hrel
    have hc := hbr.cell
    have hf := hbr.frozen
    by_cases hr : r = []
    · subst hr
      have hz : ({ data := #[] } : ByteArray).size = 0 := rfl
      gi_wp2
      go_end0
      exact ⟨⟨_, rfl⟩, by rw [hx]; simpa [rawGo] using hJr⟩
    · have hlen := str_ne hr
      obtain ⟨t, ht⟩ : ∃ t : ByteArray, t = ⟨r.toArray⟩ := ⟨_, rfl⟩
      have hts : t.size = r.length := by rw [ht]; rfl
      rw [← ht] at hc
      have HTT := Lib.hid ht
      have hd : decide (0 < t.size) = true := by rw [decide_eq_true_eq]; omega
      have hd' : decide (0 < (t.size : Int)) = true := by rw [decide_eq_true_eq]; omega
      have HL := Lib.hid hrl
      have HLE := Lib.hid hlen
      have HS := Lib.hid hts
      have HIX := Tryz.strings_IndexByte t 10 wr
      rw [show t.data.toList = r by rw [ht]] at HIX
      rcases raw_step hr with ⟨i, hi, hir, hs1⟩ | ⟨hi, hs1⟩
      · rw [show ((10 : Int).toNat.toUInt8) = 10 from rfl, hi] at HIX
        have HI := Lib.hid hir
        clear hrl hlen hts ht hi
        have hg : decide (0 ≤ (i : Int)) = true := by rw [decide_eq_true_eq]; omega
        have hwr : IntKind.i64.wrap ((i : Int) + 1) = (i : Int) + 1 := by have := HI.out; have := HL.out; exact i64_nat (i + 1) (by omega)
        have hsl : (i : Int) + 1 ≤ (t.size : Int) := by have := HI.out; have := HS.out; omega
        gi_wp2_with (refine ⟨trivial, ?_⟩; gi_at_call 90; refine (callsIn_wide.2 HIX).mono ?_; rintro e w1 ⟨rfl, rfl⟩)
        gi_region
        all_goals
          have eA : (⟨(r.take (i + 1)).toArray⟩ : ByteArray) = t.extract 0 (i + 1) := by
            rw [HTT.out]; apply ByteArray.ext; rw [ByteArray.data_extract]; simp
          have eB : (⟨(r.drop (i + 1)).toArray⟩ : ByteArray) = t.extract (i + 1) t.size := by
            rw [HS.out, HTT.out]; apply ByteArray.ext; rw [ByteArray.data_extract]; apply Array.ext'; rw [Array.toList_extract, List.extract_eq_take_drop]; simp only []; rw [List.take_of_length_le (by simp)]
          have K0 : Keep (fun b => b = Bs) w1 (w1.setCell ⟨Bs, 0, none⟩ (.string (t.extract (i + 1) t.size))).drew := (Keep.setCell (Keep.refl (fun b => b = Bs) w1) ⟨Bs, 0, none⟩ _ (.inl rfl)).drew
          obtain ⟨fn, tmps, assign, body, hy, hR⟩ := HY.out pre (r.take (i + 1)) _ (HJ.out _ _ _ hJr K0) (by rw [hx, hs1]; exact ⟨rawGo [] (r.drop (i + 1)), by simp⟩)
          rw [eA] at hy
          have HR := Lib.hid hR
          have hbx : Boxed (w1.setCell ⟨Bs, 0, none⟩ (.string (t.extract (i + 1) t.size))).drew Bs 9 (.string (t.extract (i + 1) t.size)) := hbr.set _
          have HBX := Lib.hid hbx
          have HBL := Lib.hid hc
          have HEB := Lib.hid eB
          clear hR K0 hbx eA eB
          gi_wp2
          refine HR.out.mono ?_
          rintro e W3 ⟨rfl, hJ3, hB3⟩
          have hb3 : Boxed W3 Bs 9 (.string ⟨(r.drop (i + 1)).toArray⟩) := by rw [HEB.out]; exact hB3.trans HBX.out
          gi_wp2
          go_roundw
          case rel => exact ⟨pre ++ [r.take (i + 1)], r.drop (i + 1), by rw [hx, hs1]; simp, by rw [List.length_drop]; have := HL.out; omega, hb3, hJ3⟩
          case measure =>
            unfold boxLen
            rw [hb3.cell, HBL.out]
            simp only [HS.out]
            show (r.drop (i + 1)).length < r.length
            rw [List.length_drop]; have := HI.out; omega
      · rw [show ((10 : Int).toNat.toUInt8) = 10 from rfl, hi] at HIX
        clear hrl hlen hts ht hi
        have K0 : Keep (fun b => b = Bs) wr (wr.setCell ⟨Bs, 0, none⟩ (.string ⟨#[]⟩)) := Keep.setCell (Keep.refl (fun b => b = Bs) wr) ⟨Bs, 0, none⟩ _ (.inl rfl)
        obtain ⟨fn, tmps, assign, body, hy, hR⟩ := HY.out pre r _ (HJ.out _ _ _ hJr K0) (by rw [hx, hs1]; exact ⟨rawGo [] [], by simp⟩)
        rw [← HTT.out] at hy
        have HR := Lib.hid hR
        have hbx : Boxed (wr.setCell ⟨Bs, 0, none⟩ (.string ⟨#[]⟩)) Bs 9 (.string ⟨#[]⟩) := hbr.set _
        have HBX := Lib.hid hbx
        have HBL := Lib.hid hc
        clear hR K0 hbx
        gi_wp2_with (refine ⟨trivial, ?_⟩; gi_at_call 90; refine (callsIn_wide.2 HIX).mono ?_; rintro e w1 ⟨rfl, rfl⟩)
        refine HR.out.mono ?_
        rintro e W3 ⟨rfl, hJ3, hB3⟩
        have hb3 : Boxed W3 Bs 9 (.string ⟨#[]⟩) := hB3.trans HBX.out
        gi_wp2
        go_roundw
        case rel => exact ⟨pre ++ [r], [], by rw [hx, hs1]; simp, by simp, hb3, hJ3⟩
        case measure =>
          unfold boxLen
          rw [hb3.cell, HBL.out]
          simp only [HS.out]
          exact HLE.out
end Go.Proofs.YtcodbomgodkcmaaGreatDoor.Lin
