/- dirfs: what stands in a slot, read. -/
import Derived.Test.YtejeadccpigepaaCutB
import Derived.Laws.StructEq
namespace Go.Proofs.Ytejeadccpigepaa.Dir
open Go.RowKit Go.Maps Go.Proofs.Ytejeadccpigepaa Go.Proofs.Ytejeadccpigepaa.Ino
set_option maxRecDepth 100000

theorem mayB_nz {nm : List UInt8} (h : mayB nm = true) : ∀ c ∈ nm, c ≠ 0 := by
  intro c hc e
  simp only [mayB, Bool.and_eq_true] at h
  have := List.all_eq_true.1 h.2 c hc
  rw [e] at this
  revert this; decide

theorem okE.nz {e : List UInt8 × Nat} (h : okE e) : ∀ c ∈ e.1, c ≠ 0 := by
  rcases h with ⟨h1, _⟩ | ⟨h1, _⟩
  · rw [h1]; simp
  · exact mayB_nz h1

def UnpC (s : ByteArray) (z : Int) : Prop := (s.toList = [] ∧ z = 0) ∨ (s.toList ≠ [] ∧ 0 < z ∧ mayB s.data.toList = true ∧ z < 32)

/-- What unpack answers. -/
structure UnpR (e : List UInt8 × Nat) (w : World) (x : Ending) (w' : World) : Prop where
  ret : x = .returned (.tuple #[.agg #[.string ⟨e.1.toArray⟩, .int .i64 (e.2 : Int)], .bool true])
  keep : Keep (fun _ => False) w w'

theorem packL_front {e : List UInt8 × Nat} (h : e.1.length ≤ 24) (i : Nat) (hi : i < 24) : (packL e).getD i 0 = (e.1 ++ List.replicate (24 - e.1.length) 0).getD i 0 := by
  have hl : (e.1 ++ List.replicate (24 - e.1.length) (0 : UInt8)).length = 24 := by simp; omega
  unfold packL
  rw [List.append_assoc (e.1 ++ List.replicate (24 - e.1.length) 0), List.getD_eq_getElem?_getD, List.getD_eq_getElem?_getD, List.getElem?_append_left (by omega)]

theorem packL_node {e : List UInt8 × Nat} (h : e.1.length ≤ 24) : (packL e).getD 24 0 = UInt8.ofNat e.2 := by
  have hl : (e.1 ++ List.replicate (24 - e.1.length) (0 : UInt8)).length = 24 := by simp; omega
  unfold packL
  rw [List.append_assoc (e.1 ++ List.replicate (24 - e.1.length) 0), List.getD_eq_getElem?_getD, List.getElem?_append_right (by omega), hl]
  rfl

theorem seen_cell {w : World} {g o cap n : Nat} {l : List UInt8} (h : Seen w 1 (.slice (some ⟨g, o, none⟩) n cap) n (bcells l)) (i : Nat) (hi : i < n) : w.cell? ⟨g, o + i, none⟩ = some (.int .u8 ((l.getD i 0).toNat : Int)) := by
  have hl := h.1
  rw [bcells_length] at hl
  obtain ⟨_, a, c, hv, _, _, h4⟩ := h
  simp only [Value.slice.injEq] at hv
  obtain ⟨rfl, _, rfl⟩ := hv
  rcases h4 with h4 | ⟨g', o', he, _, hc⟩
  · omega
  · simp only [Option.some.injEq, Addr.mk.injEq, and_true] at he
    obtain ⟨rfl, rfl⟩ := he
    exact hc i _ (by simp [bcells, List.getElem?_map, List.getElem?_eq_getElem (show i < l.length by omega), List.getD_eq_getElem?_getD])

set_option maxHeartbeats 2000000 in
theorem unpack_any (e : List UInt8 × Nat) (he : okE e) {w : World} {g o cap : Nat} (hv : Seen w 1 (.slice (some ⟨g, o, none⟩) 32 cap) 32 (bcells (packL e))) : Calls Try.prog 29 #[.slice (some ⟨g, o, none⟩) 32 cap] w fun x w' => UnpR e w x w' := by
  have hlen := he.len
  have hnz := he.nz
  have hok : okE e := he
  have hcp : 32 ≤ cap ∧ cap ≤ maxLen := by
    obtain ⟨_, a, c, hv', h1, h2, _⟩ := hv
    simp only [Value.slice.injEq] at hv'
    obtain ⟨_, _, rfl⟩ := hv'
    exact ⟨h1, h2⟩
  obtain ⟨hc1, hc2⟩ := hcp
  have hgl : g < w.heap.size := World.block_lt_of_cell? _ _ (seen_cell hv 0 (by omega))
  obtain ⟨nm, k⟩ := e
  simp only at hlen hnz
  have hce : ∀ i, i < 24 → w.cell? ⟨g, o + i, none⟩ = some (.int .u8 (((nm ++ List.replicate (24 - nm.length) 0).getD i 0).toNat : Int)) := fun i hi => by rw [seen_cell hv i (by omega), packL_front hlen.1 i hi]
  have hck : w.cell? ⟨g, o + 24, none⟩ = some (.int .u8 (k : Int)) := by
    rw [seen_cell hv 24 (by omega), packL_node hlen.1]
    have : ((UInt8.ofNat k).toNat : Int) = (k : Int) := by rw [UInt8.toNat_ofNat']; omega
    rw [this]
  unfold maxLen at hc2
  have hal : Keep (fun _ => False) w ((w.alloc (.cells #[.string ⟨#[]⟩, .int .i64 0] 51)).alloc (.cells #[.int .u8 0] 5)) := ((Keep.refl _ w).alloc _).alloc _
  have HCUT := Lib.hid (bcut_any (w := ((w.alloc (.cells #[.string ⟨#[]⟩, .int .i64 0] 51)).alloc (.cells #[.int .u8 0] 5))) g o 24 cap (w.heap.size + 1) nm (24 - nm.length) hnz (by omega) (by omega) (by unfold maxLen; omega) (fun i hi => (hal.cell hgl (fun h => h) _).trans (hce i hi)) (by
    have := cell_of_row ((w.alloc (.cells #[.string ⟨#[]⟩, .int .i64 0] 51)).alloc (.cells #[.int .u8 0] 5)) (w.heap.size + 1) 0 _ _ _ (by have := heap_alloc_new (w.alloc (.cells #[.string ⟨#[]⟩, .int .i64 0] 51)) (.cells #[.int .u8 0] 5); simpa using this)
    rw [this]; rfl))
  have hr0 : ((w.alloc (.cells #[.string ⟨#[]⟩, .int .i64 0] 51)).alloc (.cells #[.int .u8 0] 5)).heap[w.heap.size]? = some (.cells #[.string ⟨#[]⟩, .int .i64 0] 51 (0, 0)) := heap_past (heap_alloc_new w _)
  have HR0 := Lib.hid hr0
  have HCE := Lib.hid hce; have HCK := Lib.hid hck; have HV := Lib.hid hv; have HOK := Lib.hid hok
  obtain ⟨s, hs⟩ : ∃ s : ByteArray, s = ⟨nm.toArray⟩ := ⟨_, rfl⟩
  have hsl : s.toList = nm := by rw [ByteArray.toList_eq, hs]
  have HSD : Hid (s.data.toList = nm) := Lib.hid (by rw [hs])
  have HSE := Lib.hid hs
  have HAL := Lib.hid hal
  have HNL : Hid (nm.length ≤ 24) := Lib.hid hlen.1
  have hk1 : (0 : Int) ≤ (k : Int) := by omega
  have hk2 : (k : Int) < 32 := by have := hlen.2; omega
  have HPA := Lib.hid (fun (w : World) => pack_any (nm, k) hlen.1 (show k < 256 by have := hlen.2; omega) (w := w))
  rw [← hs] at HPA
  have HSL := Lib.hid hsl
  clear hce hck hv hlen hnz hok he hal hs hsl hgl hr0
  go_enter Try.func29, Try.ntmps29
  go_wp2_with fail
  with_reducible refine HCUT.out.mono ?_
  rintro e w1 ⟨v2, v3, rfl, kc⟩
  have K1 : Hid (Keep (fun _ => False) w w1) := Lib.hid (HAL.out.trans kc (fun _ h => h.elim))
  have HR1 : Hid (w1.heap[w.heap.size]? = some (.cells #[.string ⟨#[]⟩, .int .i64 0] 51 (0, 0))) := Lib.hid ((kc.block w.heap.size (lt_of_block HR0.out) (fun h => h)).trans HR0.out)
  have hsz1 : w.heap.size + 1 < w1.heap.size := by have := kc.size; simp at this; omega
  clear kc
  have HST : Hid (∀ w2, Keep (fun _ => False) w w2 → (convert 71 9 (.slice (some ⟨g, o, none⟩) nm.length cap)).run Try.prog w2 = .ok (.string s) w2) := Lib.hid (fun w2 K2 => by
    have hst := run_string_of_bytes (P := Try.prog) (w := w2) (b := g) (off := o) (l := nm) (fun j hj => by
      rw [(K2.cell (World.block_lt_of_cell? _ _ HCK.out) (fun h => h) _), HCE.out j (by have := HNL.out; omega), show (nm ++ List.replicate (24 - nm.length) (0 : UInt8)).getD j 0 = nm[j] by rw [List.getD_eq_getElem?_getD, List.getElem?_append_left hj, List.getElem?_eq_getElem hj]; rfl]) 71 9 5 nm.length cap rfl Try.underlying71 Try.underlying5 Try.underlying9
    rw [← HSE.out] at hst
    exact hst)
  have hst0 := HST.out w1 K1.out
  have hst1 := HST.out w1.drew K1.out.drew
  have hst2 := HST.out (w1.alloc (.cells #[.string ⟨#[]⟩, .int .i64 0] 51)).drew (K1.out.alloc _).drew
  have hck : w1.cell? ⟨g, o + 24, none⟩ = some (.int .u8 (k : Int)) := (K1.out.cell (World.block_lt_of_cell? _ _ HCK.out) (fun h => h) _).trans HCK.out
  have hgl1 : g < w1.heap.size := World.block_lt_of_cell? _ _ hck
  have hz256 : (k : Int) % 18446744073709551616 = (k : Int) := by omega
  have HCS : Hid (UnpC s (k : Int)) := Lib.hid (by
    rcases HOK.out with ⟨h1, h2⟩ | ⟨h1, h2, h3⟩
    · simp only at h1 h2
      exact .inl ⟨by rw [HSL.out, h1], by rw [h2]; rfl⟩
    · simp only at h1 h2 h3
      refine .inr ⟨?_, by omega, by rw [HSD.out]; exact h1, by omega⟩
      rw [HSL.out]; intro e; rw [e] at h1; exact absurd h1 (by decide))
  have HSB : Hid (∀ w2, Keep (fun _ => False) w w2 → (convert 71 9 (.slice (some ⟨g, o, none⟩) 32 cap)).run Try.prog w2 = .ok (.string ⟨(packL (nm, k)).toArray⟩) w2) := Lib.hid (fun w2 K2 => by
    have hl := packL_length (e := (nm, k)) HNL.out
    refine run_string_of_bytes (fun j hj => ?_) 71 9 5 32 cap hl Try.underlying71 Try.underlying5 Try.underlying9
    have hc := seen_cell HV.out j (by omega)
    rw [(K2.cell (World.block_lt_of_cell? _ _ HCK.out) (fun h => h) _), hc, List.getD_eq_getElem?_getD, List.getElem?_eq_getElem hj]
    rfl)
  generalize hzk : (k : Int) = z at *
  have HZK := Lib.hid hzk
  clear hzk
  go_wp2_with fail
  rcases HCS.out with ⟨h1, h2⟩ | ⟨h1, h2, h3, h4⟩
  · have e0 : s.toList.isEmpty = true := by rw [h1]; rfl
    have e1 : (z == 0) = true := by rw [h2]; rfl
    clear h1 h2
    go_region
    all_goals go_wp2_with fail
    all_goals
      (with_reducible refine (HPA.out _).mono ?_)
      rintro e w2 ⟨v, rfl, hr, hk⟩
      have HK2 : Hid (Keep (fun _ => False) w w2) := Lib.hid ((K1.out.alloc _).drew.trans hk (fun _ h => h.elim))
      have hR2 : w2.heap[w.heap.size]? = some (.cells #[.string ⟨#[]⟩, .int .i64 0] 51 (0, 0)) := (hk.block w.heap.size (by have := hsz1; simp; omega) (fun h => h)).trans (heap_past HR1.out)
      have hE2 : w2.heap[w1.heap.size]? = some (.cells #[.string s, .int .i64 z] 51 (0, 0)) := (hk.block w1.heap.size (by simp) (fun h => h)).trans (heap_alloc_new w1 _)
      have r0 : w2.cell? ⟨w.heap.size, 0, none⟩ = some (.string ⟨#[]⟩) := cell_of_row _ _ _ _ _ _ hR2
      have r1 : w2.cell? ⟨w.heap.size, 1, none⟩ = some (.int .i64 0) := cell_of_row _ _ _ _ _ _ hR2
      have q0 : w2.cell? ⟨w1.heap.size, 0, none⟩ = some (.string s) := cell_of_row _ _ _ _ _ _ hE2
      have q1 : w2.cell? ⟨w1.heap.size, 1, none⟩ = some (.int .i64 z) := cell_of_row _ _ _ _ _ _ hE2
      have f0 : w2.frozen? ⟨w.heap.size, 0, none⟩ = false := by simp [World.frozen?, hR2]
      have f1 : w2.frozen? ⟨w.heap.size, 1, none⟩ = false := by simp [World.frozen?, hR2]
      have HEQ := Lib.hid (bequal_any hr (packL_length HNL.out) (HSB.out w2 HK2.out) rfl)
      clear hr hk hR2 hE2
      go_wp2_with (go_at_call 40; (with_reducible refine HEQ.out.mono ?_); rintro e w' ⟨rfl, rfl⟩)
      exact bodyPost_ret (v := .tuple #[.agg #[.string s, .int .i64 z], .bool true]) (by simp [results, Try.results29, go_sem, r0, r1]) rfl ⟨by rw [HSE.out, ← HZK.out], (HK2.out.setCell _ _ (.inr (Nat.le_refl _))).setCell _ _ (.inr (Nat.le_refl _))⟩
  · have e0 : s.toList.isEmpty = false := by simp [h1]
    have e1 : (z == 0) = false := by simp; omega
    have HMAY : Hid (∀ w : World, Calls Try.prog 15 #[.string s] w fun e w' => e = .returned (.bool true) ∧ w = w') := Lib.hid (fun w => by have := may_any s (w := w); rwa [h3] at this)
    have HMB : Hid (∀ w : World, Calls Try.prog 16 #[.int .i64 z] w fun e w' => e = .returned (.bool true) ∧ w = w') := Lib.hid (fun w => by have := mayBe_any z (w := w); rwa [show decide (0 < z ∧ z < 32) = true by rw [decide_eq_true_eq]; omega] at this)
    clear h1 h2 h3 h4
    go_region
    all_goals go_wp2_with (first | (go_at_call 15; (with_reducible refine (HMAY.out _).mono ?_); rintro e w' ⟨rfl, rfl⟩) | (go_at_call 16; (with_reducible refine (HMB.out _).mono ?_); rintro e w' ⟨rfl, rfl⟩))
    all_goals
      (with_reducible refine (HPA.out _).mono ?_)
      rintro e w2 ⟨v, rfl, hr, hk⟩
      have HK2 : Hid (Keep (fun _ => False) w w2) := Lib.hid ((K1.out.alloc _).drew.trans hk (fun _ h => h.elim))
      have hR2 : w2.heap[w.heap.size]? = some (.cells #[.string ⟨#[]⟩, .int .i64 0] 51 (0, 0)) := (hk.block w.heap.size (by have := hsz1; simp; omega) (fun h => h)).trans (heap_past HR1.out)
      have hE2 : w2.heap[w1.heap.size]? = some (.cells #[.string s, .int .i64 z] 51 (0, 0)) := (hk.block w1.heap.size (by simp) (fun h => h)).trans (heap_alloc_new w1 _)
      have r0 : w2.cell? ⟨w.heap.size, 0, none⟩ = some (.string ⟨#[]⟩) := cell_of_row _ _ _ _ _ _ hR2
      have r1 : w2.cell? ⟨w.heap.size, 1, none⟩ = some (.int .i64 0) := cell_of_row _ _ _ _ _ _ hR2
      have q0 : w2.cell? ⟨w1.heap.size, 0, none⟩ = some (.string s) := cell_of_row _ _ _ _ _ _ hE2
      have q1 : w2.cell? ⟨w1.heap.size, 1, none⟩ = some (.int .i64 z) := cell_of_row _ _ _ _ _ _ hE2
      have f0 : w2.frozen? ⟨w.heap.size, 0, none⟩ = false := by simp [World.frozen?, hR2]
      have f1 : w2.frozen? ⟨w.heap.size, 1, none⟩ = false := by simp [World.frozen?, hR2]
      have HEQ := Lib.hid (bequal_any hr (packL_length HNL.out) (HSB.out w2 HK2.out) rfl)
      clear hr hk hR2 hE2
      go_wp2_with (go_at_call 40; (with_reducible refine HEQ.out.mono ?_); rintro e w' ⟨rfl, rfl⟩)
      exact bodyPost_ret (v := .tuple #[.agg #[.string s, .int .i64 z], .bool true]) (by simp [results, Try.results29, go_sem, r0, r1]) rfl ⟨by rw [HSE.out, ← HZK.out], (HK2.out.setCell _ _ (.inr (Nat.le_refl _))).setCell _ _ (.inr (Nat.le_refl _))⟩

end Go.Proofs.Ytejeadccpigepaa.Dir
