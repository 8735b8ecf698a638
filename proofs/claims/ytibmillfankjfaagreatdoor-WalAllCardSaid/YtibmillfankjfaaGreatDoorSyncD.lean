/- Sync of a log whose disk dies within it. -/
import Derived.Test.YtibmillfankjfaaGreatDoorSync
import Derived.Test.YtibmillfankjfaaGreatDoorCopy
namespace Go.Proofs.YtibmillfankjfaaGreatDoor
open Go.RowKit
set_option maxRecDepth 100000

set_option maxHeartbeats 2000000 in
theorem lsync_dead {w : World} {F : Nat → Prop} {p q a b c : Nat} {S : LogS} {n : Nat} (hT : Tab w) (hc : ¬ F 1 ∧ 1 ≠ q) (h : IsLog w F p q a b c S n) (hn : n < 400000000000) (hz : S.wait.length ≠ 0) (hdead : deadB (syncD S.D S.wait) = true) :
    Calls Tryz.prog 12 #[.pointer (some ⟨q, 0, none⟩)] w fun e w' => e = .returned (apiErr 4) ∧ ∃ G, DiskAt w' G p (syncD S.D S.wait) (n + 100) ∧ Keep (fun x => F x ∨ x = q ∨ x = c) w w' ∧ (∀ x, G x → F x ∨ w.heap.size ≤ x) := by
  have c0 := h.cell 1
  have f0 := h.free 1
  have f1 := h.free 2
  have cx := h.cell 2
  simp only [List.getElem?_toArray, List.getElem?_cons_zero, List.getElem?_cons_succ] at c0 cx
  have hmm := @run_makeMap Tryz.prog
  have hq := h.lt q (.inr (.inl rfl))
  have HT := Lib.hid hT; have HC := Lib.hid hc; have H := Lib.hid h
  have H1 := Lib.hid (sync_start h rfl)
  have hsl : syncD S.D S.wait = if S.wait.length = 0 then S.D else settleD (keepD S.D S.wait) S.wait := rfl
  have HSL := Lib.hid hsl
  have HDD := Lib.hid hdead
  have hw4 := h.ok.wlen
  have HRM : Hid (S.lost.length + S.wait.length ≤ maxLen) := Lib.hid (by have := h.ok.llen; have := h.ok.wlen; unfold maxLen; omega)
  clear hT hc h hsl hdead
  have HT1 : Hid (Tab ((((w.setCell ⟨q, 1, none⟩ (.map (some w.heap.size))).setCell ⟨q, 2, none⟩ (.map (some (w.heap.size + 1)))).alloc (.map #[] 0)).alloc (.map #[] 0))) := Lib.hid (HT.out.keep H1.out.keep HC.out.2)
  have e0 := H1.out.log.cell 0
  simp only [List.getElem?_toArray, List.getElem?_cons_zero] at e0
  have hz2 : (0 : Int) < (S.wait.length : Int) := by omega
  rw [if_neg hz] at HSL
  have HIN := Lib.hid (gin_key (H.out.ok.wait.of_len (keepD_len S.D S.wait)))
  go_enter Tryz.func12, Tryz.ntmps12
  go_wp2_with (first | (refine wpList_len_grp rfl _ rfl a S.wait rfl H1.out.grp ?_) | (go_at_call 33; refine (keep_any HT1.out H1.out.log.disk (by omega) H1.out.grp (by omega) H.out.ok.len H1.out.fa.1 HC.out.1).mono ?_; rintro e w2 ⟨rfl, h2, k2⟩; have H2 := Lib.hid h2; have K2 := Lib.hid k2; have HT2 := Lib.hid (HT1.out.keep k2 HC.out.1); have HL2 := Lib.hid (H1.out.turn k2 h2 (keepD_len _ _) (by omega)); have e2 := HL2.out.1.cell 0; simp only [List.getElem?_toArray, List.getElem?_cons_zero] at e2; clear h2 k2) | (go_at_call 21; refine (settle_any HT2.out H2.out (by omega) (.inr ⟨a, rfl, HL2.out.2⟩) (by omega) (by rw [keepD_len]; exact H.out.ok.len) (fun k hk => (HIN.out k hk).2) (fun b e => by cases e; exact not_grow ⟨H1.out.fa.1, Nat.lt_of_lt_of_le H1.out.fa.2 H1.out.keep.size⟩) (not_grow ⟨HC.out.1, HT1.out.lt⟩)).mono ?_; rw [← HSL.out]; rintro e w3 ⟨rfl, h3, k3⟩; have H3 := Lib.hid (SyncAt.tail K2.out h3 k3); have HL3 := Lib.hid (H1.out.turn H3.out.2 H3.out.1 (syncD_len _ _) (by omega)); have e3 := HL3.out.1.cell 0; simp only [List.getElem?_toArray, List.getElem?_cons_zero] at e3; clear h3 k3) | (go_at_call 23; refine (dead_at H3.out.1).mono ?_; rw [HDD.out]; rintro e w5 ⟨rfl, rfl⟩; have e4 := HL3.out.1.cell 3; simp only [List.getElem?_toArray, List.getElem?_cons_zero, List.getElem?_cons_succ] at e4) | (go_at_call 34; refine (copy_any HL3.out.1.lost.own HL3.out.2.own (fun e => H1.out.ne.2 e.symm) (by rw [gD_size]; exact HRM.out)).mono ?_; rintro e w6 ⟨rfl, k6⟩; have K6 := Lib.hid k6; clear k6))
  go_ret
  refine ⟨rfl, _, ((H3.out.1.mono (by omega)).keep K6.out (fun x hx e => HL3.out.1.fc (by rw [← (show x = c from e)]; exact hx))), ?_, ?_⟩
  · refine (((H1.out.keep.mono (G := fun x => F x ∨ x = q ∨ x = c) (fun _ _ h => .inr (.inl h))).trans H3.out.2 (fun _ h => .inl (.inl h)))).trans K6.out (fun _ h => .inl (.inr (.inr h)))
  · have hs := H1.out.keep.size
    rintro x (hx | hx)
    · exact .inl hx
    · exact .inr (by omega)

end Go.Proofs.YtibmillfankjfaaGreatDoor
