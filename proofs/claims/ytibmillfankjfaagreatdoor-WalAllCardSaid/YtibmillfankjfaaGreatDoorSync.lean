/- Sync of a log whose disk lives on. -/
import Derived.Test.YtibmillfankjfaaGreatDoorRead
namespace Go.Proofs.YtibmillfankjfaaGreatDoor
open Go.RowKit
set_option maxRecDepth 100000

/-- What Sync leaves of the disk. -/
def syncD (D : Dk) (g : Grp) : Dk := if g.length = 0 then D else settleD (keepD D g) g

theorem syncD_len (D : Dk) (g : Grp) : (syncD D g).las.length = D.las.length := by
  unfold syncD
  split
  · rfl
  · rw [settleD_len, keepD_len]

theorem GIn.of_len {D D' : Dk} {g : Grp} (h : GIn D g) (e : D'.las.length = D.las.length) : GIn D' g := fun x hx => by rw [e]; exact h x hx

/-- The log behind the first rows of Sync: nothing waits, and the group is held. -/
structure SyncAt (w : World) (F : Nat → Prop) (p q a c : Nat) (g : Grp) (S : LogS) (n : Nat) (w1 : World) : Prop where
  log : IsLog w1 F p q w.heap.size (w.heap.size + 1) c S n
  grp : IsGrp w1 a g
  keep : Keep (fun x => x = q) w w1
  fa : ¬ F a ∧ a < w.heap.size
  ne : a ≠ q ∧ a ≠ c

theorem sync_start {w : World} {F : Nat → Prop} {p q a b c : Nat} {S : LogS} {n : Nat} (h : IsLog w F p q a b c S n) {w1 : World}
    (hw : w1 = ((((w.setCell ⟨q, 1, none⟩ (.map (some w.heap.size))).setCell ⟨q, 2, none⟩ (.map (some (w.heap.size + 1)))).alloc (.map #[] 0)).alloc (.map #[] 0))) : SyncAt w F p q a c S.wait { S with wait := [], mark := [] } n w1 := by
  have k2 : Keep (fun x => x = q) w ((w.setCell ⟨q, 1, none⟩ (.map (some w.heap.size))).setCell ⟨q, 2, none⟩ (.map (some (w.heap.size + 1)))) := ((Keep.refl (fun x => x = q) _).setCell _ _ (.inl rfl)).setCell _ _ (.inl rfl)
  have k : Keep (fun x => x = q) w w1 := by subst hw; exact (k2.alloc _).alloc _
  obtain ⟨hqa, hqb, hqc⟩ := h.qa
  have hlt := h.lt
  have hq := hlt q (.inr (.inl rfl))
  have ha := hlt a (.inr (.inr (.inl rfl)))
  have hcl := hlt c (.inr (.inr (.inr (.inr rfl))))
  have hm0 := IsGrp.made ((w.setCell ⟨q, 1, none⟩ (.map (some w.heap.size))).setCell ⟨q, 2, none⟩ (.map (some (w.heap.size + 1))))
  have hm1 := IsGrp.made (((w.setCell ⟨q, 1, none⟩ (.map (some w.heap.size))).setCell ⟨q, 2, none⟩ (.map (some (w.heap.size + 1)))).alloc (.map #[] 0))
  simp only [World.size_alloc, World.size_setCell] at hm0 hm1
  refine ⟨⟨?_, h.disk.keep k (fun x hx e => h.fq (by rw [← (show x = q from e)]; exact hx)), ?_, ?_, h.lost.keep k (fun e => hqc (show c = q from e).symm), by omega, by omega, by omega, h.fq, ?_, ?_, h.fc, ⟨h.ok.len, h.ok.len2, by simp [GIn], by simp [GIn], by simp, by simp, h.ok.llen⟩⟩,
    h.wait.keep k (fun e => hqa (show a = q from e).symm), k, ⟨h.fa, ha⟩, ⟨fun e => hqa e.symm, h.ac⟩⟩
  · have e1 := heap_setCell_at (w := w) (i := 1) (.map (some w.heap.size)) h.head
    have e2 := heap_setCell_at (i := 2) (.map (some (w.heap.size + 1))) e1
    have e3 := (((Keep.refl (fun _ => False) ((w.setCell ⟨q, 1, none⟩ (.map (some w.heap.size))).setCell ⟨q, 2, none⟩ (.map (some (w.heap.size + 1))))).alloc (.map #[] 0)).alloc (.map #[] 0)).block q (by simpa using hq) (fun h => h)
    rw [hw, e3, e2]
    rfl
  · rw [hw]; exact hm0.alloc _
  · rw [hw]; exact hm1
  · intro hx; have := h.disk.lt _ hx; omega
  · intro hx; have := h.disk.lt _ hx; omega

theorem SyncAt.turn {w w1 w2 : World} {F : Nat → Prop} {p q a c : Nat} {g : Grp} {S : LogS} {n m : Nat} {D : Dk} (h : SyncAt w F p q a c g S n w1) (k : Keep F w1 w2) (hd : DiskAt w2 (grow F w1 w2) p D m) (hl : D.las.length = S.D.las.length) (hm : n ≤ m) :
    IsLog w2 (grow F w1 w2) p q w.heap.size (w.heap.size + 1) c { S with D := D } m ∧ IsGrp w2 a g := by
  have hk := h.keep.size
  have hlog := h.log
  have hlt := hlog.lt
  have hw0 := hlt _ (.inr (.inr (.inl rfl)))
  have hw1 := hlt _ (.inr (.inr (.inr (.inl rfl))))
  have hc := hlt _ (.inr (.inr (.inr (.inr rfl))))
  have hq := hlt _ (.inr (.inl rfl))
  refine ⟨⟨(k.block q hq hlog.fq).trans hlog.head, hd, hlog.wait.keep k hlog.fa, hlog.mark.keep k hlog.fb, hlog.lost.keep k hlog.fc, hlog.ab, hlog.ac, hlog.bc, not_grow ⟨hlog.fq, hq⟩, not_grow ⟨hlog.fa, hw0⟩, not_grow ⟨hlog.fb, hw1⟩, not_grow ⟨hlog.fc, hc⟩,
    ⟨by rw [hl]; exact hlog.ok.len, by rw [hl]; exact hlog.ok.len2, hlog.ok.wait.of_len hl, hlog.ok.mark.of_len hl, hlog.ok.wlen, hlog.ok.mlen, Nat.le_trans hlog.ok.llen hm⟩⟩, h.grp.keep k h.fa.1⟩

/-- The group into the log and home. -/
theorem SyncAt.tail {w1 w2 w3 : World} {F : Nat → Prop} {p : Nat} {D : Dk} {n : Nat} (k2 : Keep F w1 w2) (h : DiskAt w3 (grow (grow F w1 w2) w2 w3) p D n) (k3 : Keep (grow F w1 w2) w2 w3) : DiskAt w3 (grow F w1 w3) p D n ∧ Keep F w1 w3 :=
  ⟨h.chain k2.size k3.size, k2.grown2 k3⟩

set_option maxHeartbeats 2000000 in
theorem lsync_any {w : World} {F : Nat → Prop} {p q a b c : Nat} {S : LogS} {n : Nat} (hT : Tab w) (hc : ¬ F 1 ∧ 1 ≠ q) (h : IsLog w F p q a b c S n) (hn : n < 400000000000) (hdead : deadB (syncD S.D S.wait) = false) :
    Calls Tryz.prog 12 #[.pointer (some ⟨q, 0, none⟩)] w fun e w' => e = .returned .nilIface ∧ ∃ G a' b', IsLog w' G p q a' b' c ⟨syncD S.D S.wait, [], [], S.lost⟩ (n + 100) ∧ Keep (fun x => F x ∨ x = q) w w' ∧ (∀ x, logOf G q a' b' c x → logOf F q a b c x ∨ w.heap.size ≤ x) := by
  have c0 := h.cell 1
  have f0 := h.free 1
  have f1 := h.free 2
  have cx := h.cell 2
  simp only [List.getElem?_toArray, List.getElem?_cons_zero, List.getElem?_cons_succ] at c0 cx
  have hmm := @run_makeMap Tryz.prog
  have hq := h.lt q (.inr (.inl rfl))
  have HT := Lib.hid hT; have HC := Lib.hid hc; have H := Lib.hid h
  have H1 := Lib.hid (sync_start h rfl)
  have hsl : syncD S.D S.wait = if S.wait.length = 0 then S.D else settleD (keepD S.D S.wait) S.wait := rfl
  have HSL := Lib.hid hsl
  have HDD := Lib.hid hdead
  have hw4 := h.ok.wlen
  clear hT hc h hsl hdead
  have HT1 : Hid (Tab ((((w.setCell ⟨q, 1, none⟩ (.map (some w.heap.size))).setCell ⟨q, 2, none⟩ (.map (some (w.heap.size + 1)))).alloc (.map #[] 0)).alloc (.map #[] 0))) := Lib.hid (HT.out.keep H1.out.keep HC.out.2)
  have e0 := H1.out.log.cell 0
  simp only [List.getElem?_toArray, List.getElem?_cons_zero] at e0
  have hseg : ∀ (w3 : World) (D : Dk) (m : Nat), n ≤ m → m ≤ n + 100 → DiskAt w3 (grow F ((((w.setCell ⟨q, 1, none⟩ (.map (some w.heap.size))).setCell ⟨q, 2, none⟩ (.map (some (w.heap.size + 1)))).alloc (.map #[] 0)).alloc (.map #[] 0)) w3) p D m → Keep F ((((w.setCell ⟨q, 1, none⟩ (.map (some w.heap.size))).setCell ⟨q, 2, none⟩ (.map (some (w.heap.size + 1)))).alloc (.map #[] 0)).alloc (.map #[] 0)) w3 → D.las.length = S.D.las.length →
      ∃ G a' b', IsLog w3 G p q a' b' c ⟨D, [], [], S.lost⟩ (n + 100) ∧ Keep (fun x => F x ∨ x = q) w w3 ∧ (∀ x, logOf G q a' b' c x → logOf F q a b c x ∨ w.heap.size ≤ x) := by
    intro w3 D m hm1 hm2 hd hk hl
    obtain ⟨g1, g2⟩ := H1.out.turn hk (hd.mono hm2) hl (by omega)
    refine ⟨_, _, _, g1, (H1.out.keep.mono (fun _ _ h => .inr h)).trans hk (fun _ h => .inl (.inl h)), ?_⟩
    have hs := H1.out.keep.size
    rintro x ((hx | hx) | rfl | rfl | rfl | rfl)
    · exact .inl (.inl hx)
    · exact .inr (by omega)
    · exact .inl (.inr (.inl rfl))
    · exact .inr (Nat.le_refl _)
    · exact .inr (by omega)
    · exact .inl (.inr (.inr (.inr (.inr rfl))))
  have HSEG := Lib.hid hseg
  clear hseg
  by_cases hz : S.wait.length = 0
  · have HZ := Lib.hid hz
    rw [if_pos hz] at HSL
    go_enter Tryz.func12, Tryz.ntmps12
    go_wp2_with (first | (refine wpList_len_grp rfl _ rfl a S.wait rfl H1.out.grp ?_; rw [HZ.out]) | (go_at_call 23; refine (dead_at H1.out.log.disk).mono ?_; rw [show deadB S.D = false by rw [← HSL.out]; exact HDD.out]; rintro e w5 ⟨rfl, rfl⟩))
    go_ret
    rw [HSL.out]
    exact ⟨rfl, HSEG.out _ _ n (Nat.le_refl _) (by omega) (H1.out.log.disk.widen (fun _ hb => .inl hb) (fun b hb => by rcases hb with hb | hb; exact H1.out.log.disk.lt b hb; omega)) (Keep.refl _ _) rfl⟩
  · have hz2 : (0 : Int) < (S.wait.length : Int) := by omega
    rw [if_neg hz] at HSL
    have HIN := Lib.hid (gin_key (H.out.ok.wait.of_len (keepD_len S.D S.wait)))
    go_enter Tryz.func12, Tryz.ntmps12
    go_wp2_with (first | (refine wpList_len_grp rfl _ rfl a S.wait rfl H1.out.grp ?_) | (go_at_call 33; refine (keep_any HT1.out H1.out.log.disk (by omega) H1.out.grp (by omega) H.out.ok.len H1.out.fa.1 HC.out.1).mono ?_; rintro e w2 ⟨rfl, h2, k2⟩; have H2 := Lib.hid h2; have K2 := Lib.hid k2; have HT2 := Lib.hid (HT1.out.keep k2 HC.out.1); have HL2 := Lib.hid (H1.out.turn k2 h2 (keepD_len _ _) (by omega)); have e2 := HL2.out.1.cell 0; simp only [List.getElem?_toArray, List.getElem?_cons_zero] at e2; clear h2 k2) | (go_at_call 21; refine (settle_any HT2.out H2.out (by omega) (.inr ⟨a, rfl, HL2.out.2⟩) (by omega) (by rw [keepD_len]; exact H.out.ok.len) (fun k hk => (HIN.out k hk).2) (fun b e => by cases e; exact not_grow ⟨H1.out.fa.1, Nat.lt_of_lt_of_le H1.out.fa.2 H1.out.keep.size⟩) (not_grow ⟨HC.out.1, HT1.out.lt⟩)).mono ?_; rw [← HSL.out]; rintro e w3 ⟨rfl, h3, k3⟩; have H3 := Lib.hid (SyncAt.tail K2.out h3 k3); have HL3 := Lib.hid (H1.out.turn H3.out.2 H3.out.1 (syncD_len _ _) (by omega)); have e3 := HL3.out.1.cell 0; simp only [List.getElem?_toArray, List.getElem?_cons_zero] at e3; clear h3 k3) | (go_at_call 23; refine (dead_at H3.out.1).mono ?_; rw [HDD.out]; rintro e w5 ⟨rfl, rfl⟩))
    go_ret
    exact ⟨rfl, HSEG.out _ _ _ (by omega) (by omega) H3.out.1 H3.out.2 (syncD_len _ _)⟩

end Go.Proofs.YtibmillfankjfaaGreatDoor
