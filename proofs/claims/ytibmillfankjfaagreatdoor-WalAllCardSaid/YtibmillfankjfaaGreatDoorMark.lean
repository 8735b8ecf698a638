/- Mark and Back of a log that lives; opening and counting beside other things. -/
import Derived.Test.YtibmillfankjfaaGreatDoorTwo
namespace Go.Proofs.YtibmillfankjfaaGreatDoor
open Go.RowKit Go.Maps
set_option maxRecDepth 100000

theorem clone_grp {w : World} {b : Nat} {g : Grp} (h : IsGrp w b g) :
    Calls Tryz.prog 48 #[.map (some b)] w fun e w' => e = .returned (.map (some w.heap.size)) ∧ IsGrp w' w.heap.size g ∧ Keep (fun _ => False) w w' := by
  obtain ⟨es, clock, hb, F, hs, hD⟩ := h.own
  refine (AnyW.maps_Clone Tryz.cloneA b es clock w hb).mono ?_
  rintro e w' ⟨rfl, rfl⟩
  exact ⟨rfl, ⟨⟨es, clock, (MapKept.heap_alloc w _).1, F, hs, hD⟩, h.ok⟩, (Keep.refl _ w).alloc _⟩

theorem IsLog.marked {w w1 : World} {F : Nat → Prop} {p q a b c : Nat} {S : LogS} {n : Nat} (h : IsLog w F p q a b c S n) (h1 : IsGrp w1 w.heap.size S.wait) (k1 : Keep (fun _ => False) w w1) :
    IsLog (w1.setCell ⟨q, 2, none⟩ (.map (some w.heap.size))) F p q a w.heap.size c { S with mark := S.wait } n ∧ Keep (fun x => x = q) w (w1.setCell ⟨q, 2, none⟩ (.map (some w.heap.size))) := by
  have hl := h.keep0 k1
  have k2 : Keep (fun x => x = q) w1 (w1.setCell ⟨q, 2, none⟩ (.map (some w.heap.size))) := (Keep.refl (fun x => x = q) w1).setCell _ _ (.inl rfl)
  obtain ⟨hqa, hqb, hqc⟩ := h.qa
  have hq := h.lt q (.inr (.inl rfl))
  have ha := h.lt a (.inr (.inr (.inl rfl)))
  have hc := h.lt c (.inr (.inr (.inr (.inr rfl))))
  refine ⟨⟨?_, hl.disk.keep k2 (fun x hx e => h.fq (by rw [← (show x = q from e)]; exact hx)), hl.wait.keep k2 (fun e => hqa (show a = q from e).symm), h1.keep k2 (fun e => by have : w.heap.size = q := e; omega), hl.lost.keep k2 (fun e => hqc (show c = q from e).symm), by omega, h.ac, by omega, h.fq, h.fa, fun hx => by have := h.disk.lt _ hx; omega, h.fc, ⟨h.ok.len, h.ok.len2, h.ok.wait, h.ok.wait, h.ok.wlen, h.ok.wlen, h.ok.llen⟩⟩, (k1.mono (fun _ _ h => h.elim)).trans k2 (fun _ h => .inl h)⟩
  rw [heap_setCell_at _ hl.head]; rfl

theorem IsLog.backed {w w1 : World} {F : Nat → Prop} {p q a b c : Nat} {S : LogS} {n : Nat} (h : IsLog w F p q a b c S n) (h1 : IsGrp w1 w.heap.size S.mark) (k1 : Keep (fun _ => False) w w1) :
    IsLog (w1.setCell ⟨q, 1, none⟩ (.map (some w.heap.size))) F p q w.heap.size b c { S with wait := S.mark } n ∧ Keep (fun x => x = q) w (w1.setCell ⟨q, 1, none⟩ (.map (some w.heap.size))) := by
  have hl := h.keep0 k1
  have k2 : Keep (fun x => x = q) w1 (w1.setCell ⟨q, 1, none⟩ (.map (some w.heap.size))) := (Keep.refl (fun x => x = q) w1).setCell _ _ (.inl rfl)
  obtain ⟨hqa, hqb, hqc⟩ := h.qa
  have hq := h.lt q (.inr (.inl rfl))
  have hb := h.lt b (.inr (.inr (.inr (.inl rfl))))
  have hc := h.lt c (.inr (.inr (.inr (.inr rfl))))
  refine ⟨⟨?_, hl.disk.keep k2 (fun x hx e => h.fq (by rw [← (show x = q from e)]; exact hx)), h1.keep k2 (fun e => by have : w.heap.size = q := e; omega), hl.mark.keep k2 (fun e => hqb (show b = q from e).symm), hl.lost.keep k2 (fun e => hqc (show c = q from e).symm), by omega, by omega, h.bc, h.fq, fun hx => by have := h.disk.lt _ hx; omega, h.fb, h.fc, ⟨h.ok.len, h.ok.len2, h.ok.mark, h.ok.mark, h.ok.mlen, h.ok.mlen, h.ok.llen⟩⟩, (k1.mono (fun _ _ h => h.elim)).trans k2 (fun _ h => .inl h)⟩
  rw [heap_setCell_at _ hl.head]; rfl

set_option maxHeartbeats 1000000 in
theorem lmark_any {w : World} {F : Nat → Prop} {p q a b c : Nat} {S : LogS} {n : Nat} (h : IsLog w F p q a b c S n) :
    Calls Tryz.prog 28 #[.pointer (some ⟨q, 0, none⟩)] w fun e w' => e = .returned (.tuple #[]) ∧ IsLog w' F p q a w.heap.size c { S with mark := S.wait } n ∧ Keep (fun x => x = q) w w' := by
  have c0 := h.cell 1
  have c1 := h.cell 2
  have f1 := h.free 2
  simp only [List.getElem?_toArray, List.getElem?_cons_zero, List.getElem?_cons_succ] at c0 c1
  have H := Lib.hid h
  clear h
  go_enter Tryz.func28, Tryz.ntmps28
  go_wp2_with (go_at_call 48; refine (clone_grp H.out.wait).mono ?_; rintro e w1 ⟨rfl, h1, k1⟩; have H1 := Lib.hid h1; have K1 := Lib.hid k1; have d1 := (H.out.keep0 k1).cell 2; have e1 := (H.out.keep0 k1).free 2; simp only [List.getElem?_toArray, List.getElem?_cons_zero, List.getElem?_cons_succ] at d1; clear h1 k1)
  go_end0
  exact ⟨rfl, H.out.marked H1.out K1.out⟩

set_option maxHeartbeats 1000000 in
theorem lback_any {w : World} {F : Nat → Prop} {p q a b c : Nat} {S : LogS} {n : Nat} (h : IsLog w F p q a b c S n) :
    Calls Tryz.prog 29 #[.pointer (some ⟨q, 0, none⟩)] w fun e w' => e = .returned (.tuple #[]) ∧ IsLog w' F p q w.heap.size b c { S with wait := S.mark } n ∧ Keep (fun x => x = q) w w' := by
  have c0 := h.cell 1
  have c1 := h.cell 2
  have f1 := h.free 1
  simp only [List.getElem?_toArray, List.getElem?_cons_zero, List.getElem?_cons_succ] at c0 c1
  have H := Lib.hid h
  clear h
  go_enter Tryz.func29, Tryz.ntmps29
  go_wp2_with (go_at_call 48; refine (clone_grp H.out.mark).mono ?_; rintro e w1 ⟨rfl, h1, k1⟩; have H1 := Lib.hid h1; have K1 := Lib.hid k1; have d1 := (H.out.keep0 k1).cell 1; have e1 := (H.out.keep0 k1).free 1; simp only [List.getElem?_toArray, List.getElem?_cons_zero, List.getElem?_cons_succ] at d1; clear h1 k1)
  go_end0
  exact ⟨rfl, H.out.backed H1.out K1.out⟩

theorem mark_t {N : Nat → Prop} {w0 wr : World} {p q : Nat} {S : LogS} {n : Nat} (h : Two N w0 wr p q S n) (hN : ∀ x, N x → x < wr.heap.size) :
    Calls Tryz.prog 28 #[.pointer (some ⟨q, 0, none⟩)] wr fun e w' => e = .returned (.tuple #[]) ∧ Two N w0 w' p q { S with mark := S.wait } n ∧ Keep (fun x => ¬ N x) wr w' := by
  obtain ⟨F, a, b, c, h1, h2⟩ := h.ex
  have hs := h.keep.size
  refine (lmark_any h1).mono ?_
  rintro e w' ⟨rfl, hl, hk⟩
  have hq := h2 q (.inr (.inl rfl))
  refine ⟨rfl, ⟨⟨F, a, wr.heap.size, c, hl, fun x hx => ?_⟩, h.keep.behind hk hq.1, h.tab⟩, hk.mono (fun x _ e => by rw [e]; exact hq.2)⟩
  rcases hx with hx | hx | hx | hx | hx
  · exact h2 x (.inl hx)
  · exact h2 x (.inr (.inl hx))
  · exact h2 x (.inr (.inr (.inl hx)))
  · exact ⟨by omega, fun hn => by have := hN x hn; omega⟩
  · exact h2 x (.inr (.inr (.inr (.inr hx))))

theorem back_t {N : Nat → Prop} {w0 wr : World} {p q : Nat} {S : LogS} {n : Nat} (h : Two N w0 wr p q S n) (hN : ∀ x, N x → x < wr.heap.size) :
    Calls Tryz.prog 29 #[.pointer (some ⟨q, 0, none⟩)] wr fun e w' => e = .returned (.tuple #[]) ∧ Two N w0 w' p q { S with wait := S.mark } n ∧ Keep (fun x => ¬ N x) wr w' := by
  obtain ⟨F, a, b, c, h1, h2⟩ := h.ex
  have hs := h.keep.size
  refine (lback_any h1).mono ?_
  rintro e w' ⟨rfl, hl, hk⟩
  have hq := h2 q (.inr (.inl rfl))
  refine ⟨rfl, ⟨⟨F, wr.heap.size, b, c, hl, fun x hx => ?_⟩, h.keep.behind hk hq.1, h.tab⟩, hk.mono (fun x _ e => by rw [e]; exact hq.2)⟩
  rcases hx with hx | hx | hx | hx | hx
  · exact h2 x (.inl hx)
  · exact h2 x (.inr (.inl hx))
  · exact ⟨by omega, fun hn => by have := hN x hn; omega⟩
  · exact h2 x (.inr (.inr (.inr (.inl hx))))
  · exact h2 x (.inr (.inr (.inr (.inr hx))))

theorem Two.dat {N : Nat → Prop} {w0 wr : World} {p q : Nat} {S : LogS} {n : Nat} (h : Two N w0 wr p q S n) : ∃ F, DiskAt wr F p S.D n := by
  obtain ⟨F, a, b, c, h1, h2⟩ := h.ex
  exact ⟨F, h1.disk⟩

/-- The disk of a log is opened anew. -/
theorem open_t {N : Nat → Prop} {w0 wr : World} {p q : Nat} {S : LogS} {n : Nat} (h : Two N w0 wr p q S n) (hN : ∀ x, N x → x < wr.heap.size) (hn : n < 400000000000) (hdead : deadB (openD S.D) = false) :
    Calls Tryz.prog 6 #[.pointer (some ⟨p, 0, none⟩)] wr fun e w' => ∃ q', e = .returned (.tuple #[.pointer (some ⟨q', 0, none⟩), .nilIface]) ∧ Two N w0 w' p q' ⟨openD S.D, [], [], []⟩ (n + 50) ∧ Keep (fun x => ¬ N x) wr w' := by
  obtain ⟨F, a, b, c, h1, h2⟩ := h.ex
  have hlt := h.tab.lt
  have hs := h.keep.size
  refine (open_any (tab_at h.keep h.tab) (fun hf => by have := (h2 _ (.inl hf)).1; omega) h1.disk hn h1.ok.len h1.ok.len2).mono ?_
  rintro e w' (⟨hd, _⟩ | ⟨_, G, q', a', b', c', rfl, hl, hk, ho, _⟩)
  · rw [hdead] at hd; cases hd
  · refine ⟨q', rfl, ⟨⟨G, a', b', c', hl, fun x hx => ?_⟩, h.keep.trans hk (fun x hx => .inr (h2 x (.inl hx)).1), h.tab⟩, hk.mono (fun x _ hx => (h2 x (.inl hx)).2)⟩
    rcases ho x hx with h' | h'
    · exact h2 x (.inl h')
    · exact ⟨by omega, fun hn => by have := hN x hn; omega⟩

theorem writes_t {N : Nat → Prop} {w0 wr : World} {p q : Nat} {S : LogS} {n : Nat} (h : Two N w0 wr p q S n) :
    Calls Tryz.prog 26 #[.pointer (some ⟨p, 0, none⟩)] wr fun e w' => e = .returned (.int .i64 S.D.writes) ∧ wr = w' := by
  obtain ⟨F, a, b, c, h1, h2⟩ := h.ex
  obtain ⟨⟨vl, vn, vc, hdk, hF⟩, hlt, hm⟩ := h1.disk
  exact writes_any hdk

theorem dw_writes (D : Dk) (i : Nat) (s : ByteArray) : (D.dw i s).writes ≤ D.writes + 1 := by
  unfold Dk.dw; split
  · omega
  · simp [Dk.write]
theorem df_writes (D : Dk) : D.df.writes = D.writes := by unfold Dk.df; split <;> rfl
theorem wrs_writes (D : Dk) (f : Nat → Nat × ByteArray) : ∀ k : Nat, (wrs D f k).writes ≤ D.writes + (k : Int)
  | 0 => by simp [wrs]
  | k + 1 => by
    have h1 := wrs_writes D f k
    have h2 := dw_writes (wrs D f k) (f k).1 (f k).2
    rw [wrs]
    omega
theorem settle_writes (D : Dk) (g : Grp) : (settleD D g).writes ≤ D.writes + (g.length : Int) + 1 := by
  rw [settleD, df_writes, sd_wrs]
  have h1 := dw_writes (wrs D (homeW g) g.length).df 0 zeroSec
  rw [df_writes] at h1
  have h2 := wrs_writes D (homeW g) g.length
  omega
theorem keep_writes (D : Dk) (g : Grp) : (keepD D g).writes ≤ D.writes + (g.length : Int) + 1 := by
  rw [keepD, df_writes, kd_wrs]
  have h1 := dw_writes (wrs D (logW g) g.length).df 0 (headOf g)
  rw [df_writes] at h1
  have h2 := wrs_writes D (logW g) g.length
  omega
theorem sync_writes (D : Dk) (g : Grp) : (syncD D g).writes ≤ D.writes + 2 * (g.length : Int) + 2 := by
  unfold syncD; split
  · omega
  · have h1 := settle_writes (keepD D g) g
    have h2 := keep_writes D g
    omega

end Go.Proofs.YtibmillfankjfaaGreatDoor
