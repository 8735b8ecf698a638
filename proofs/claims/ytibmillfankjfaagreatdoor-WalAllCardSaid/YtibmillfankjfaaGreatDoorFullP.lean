/- Full, of bytes of which nothing is asked where there are none. -/
import Derived.Test.YtibmillfankjfaaGreatDoorFull
namespace Go.Proofs.YtibmillfankjfaaGreatDoor
open Go.RowKit

set_option maxHeartbeats 1000000 in
set_option maxRecDepth 100000 in
theorem full_pos {w : World} {vb : Value} {l : List UInt8} (h : Seen w 1 vb l.length (bcells l)) (hb : ∀ b, vb.ownBlock = some b → 0 < l.length → b < w.heap.size) :
    Calls Tryz.prog 11 #[vb] w fun e w' => e = .returned (.slice (some ⟨w.heap.size, 0, none⟩) 512 512) ∧ Row w' 5 1 (.slice (some ⟨w.heap.size, 0, none⟩) 512 512) 512 (bcells (secOf 512 l)) ∧ Keep (fun _ => False) w w' ∧ w.heap.size < w'.heap.size := by
  have HS := Lib.hid h
  have HB := Lib.hid hb
  obtain ⟨i0, hi0, hz0, hz1, hz2⟩ := info_parts Tryz.infoB
  obtain ⟨_, ab, cap, rfl, hlc, hcm, _⟩ := h
  unfold maxLen at hcm
  clear hb
  go_enter Tryz.func11, Tryz.ntmps11
  go_wp2_with (at_make; go_loud (refine wpList_make_row rfl (.const (.int .i64 512)) (.const (.int .i64 512)) rfl Tryz.underlying35 hi0 hz0 hz1 hz2 512 rfl rfl rfl rfl (by omega) (by simp [maxLen]) ?mk))
  case mk =>
    intro w1 hrow hk hlt
    have H0 := Lib.hid (FullAt.start (n := 512) hrow (HS.out.keep hk (fun _ _ _ h => h)) hk (Nat.le_refl _))
    clear hrow hk
    go_wp2
    go_loopw [4] (fun i wr => ∃ k : Nat, k ≤ l.length ∧ k ≤ 512 ∧ i = .int .i64 k ∧ FullAt w 512 l w.heap.size (.slice ab l.length cap) k wr) (fun i _ => 512 - (intOf i).toNat)
    case atStart => exact ⟨0, by omega, by omega, rfl, H0.out⟩
    case round =>
      obtain ⟨k, hk1, hk2, rfl, hF⟩ := hrel
      have HF := Lib.hid hF
      clear hF
      by_cases t1 : k < l.length
      · by_cases t2 : k < 512
        · obtain ⟨_, _, _, hv, _, _, hc⟩ := HF.out.src
          simp only [Value.slice.injEq] at hv
          obtain ⟨rfl, _, rfl⟩ := hv
          obtain ⟨gb, ob, rfl, hgb, hcb⟩ := hc.resolve_left (by omega)
          have c0 : wr.cell? ⟨gb, ob + k, none⟩ = some (.int .u8 (l[k].toNat : Int)) := hcb k _ (by simp [bcells, List.getElem?_eq_getElem t1])
          have hth := HF.out.row.there k (by omega)
          simp only [Nat.zero_add] at hth
          obtain ⟨c1, hc1⟩ := Option.isSome_iff_exists.1 hth.1
          have f1 := hth.2
          have HST := Lib.hid (HF.out.step t1 t2 (fun b h9 => HB.out b h9 (by omega)))
          clear hc hcb hth
          generalize l[k] = byt at *
          go_wp2
          go_roundw
          case rel => exact ⟨k + 1, by omega, by omega, by go_num, HST.out⟩
          case measure => simp [intOf]; omega
        · have e : padTo 512 l k = secOf 512 l := by simp only [secOf]; congr 1; omega
          have HE := Lib.hid e
          clear e
          go_wp2
          go_ret
          exact ⟨rfl, by rw [← HE.out]; exact HF.out.row, HF.out.keep, HF.out.row.lt rfl⟩
      · have e : padTo 512 l k = secOf 512 l := by simp only [secOf]; congr 1; omega
        have HE := Lib.hid e
        clear e
        go_wp2
        go_ret
        exact ⟨rfl, by rw [← HE.out]; exact HF.out.row, HF.out.keep, HF.out.row.lt rfl⟩

end Go.Proofs.YtibmillfankjfaaGreatDoor
