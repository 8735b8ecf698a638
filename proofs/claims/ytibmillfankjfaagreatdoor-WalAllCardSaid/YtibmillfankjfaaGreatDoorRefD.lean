/- What the reference log's Sync does. -/
import Derived.Test.YtibmillfankjfaaGreatDoorRefC
namespace Go.Proofs.YtibmillfankjfaaGreatDoor
open Go.RowKit
set_option maxRecDepth 100000

theorem rsync_take (H : List ByteArray) (W : Grp) (k : Nat) (hk : k < W.length) : rsync H (W.take (k + 1)) = (rsync H (W.take k)).set (W[k]).1 (W[k]).2 := by
  unfold rsync
  rw [List.take_succ_eq_append_getElem hk, List.foldl_append]
  rfl

/-- Where Sync has come to. -/
structure RSyncAt (N : Nat → Prop) (w w1 : World) (g : Nat) (v : Value) (H : List ByteArray) (W : Grp) (k : Nat) (wr : World) : Prop where
  ex : ∃ us', Row wr 35 1 v H.length us' ∧ ∀ j, j < H.length → ∃ u, us'[j]? = some u ∧ SecI N w u ((rsync H (W.take k)).getD j default)
  keep : Keep (fun x => x = g) w1 wr

theorem RSyncAt.step {N : Nat → Prop} {w w1 wr : World} {g o cap : Nat} {H : List ByteArray} {W : Grp} {k : Nat} (h : RSyncAt N w w1 g (.slice (some ⟨g, o, none⟩) H.length cap) H W k wr) (hk : k < W.length) (hin : (W[k]).1 < H.length) {u : Value} (hu : SecI N w u (W[k]).2) :
    RSyncAt N w w1 g (.slice (some ⟨g, o, none⟩) H.length cap) H W (k + 1) (wr.setCell ⟨g, o + (W[k]).1, none⟩ u) := by
  obtain ⟨us', h1, h2⟩ := h.ex
  refine ⟨⟨us'.set (W[k]).1 u, h1.stored _ _, fun j hj => ?_⟩, h.keep.setCell _ _ (.inl rfl)⟩
  rw [rsync_take _ _ _ hk]
  have hl : us'.length = H.length := by have := h1.1; omega
  have hl2 : (rsync H (W.take k)).length = H.length := rsync_length _ _
  by_cases e : (W[k]).1 = j
  · subst e
    refine ⟨u, by simp [hl, hin], ?_⟩
    rw [List.getD_eq_getElem?_getD, List.getElem?_set_self (by omega)]
    exact hu
  · obtain ⟨u', h3, h4⟩ := h2 j hj
    refine ⟨u', by rw [List.getElem?_set_ne e]; exact h3, ?_⟩
    rw [List.getD_eq_getElem?_getD, List.getElem?_set_ne e, ← List.getD_eq_getElem?_getD]
    exact h4

def RSyncR (N : Nat → Prop) (w : World) (r : Nat) (H : List ByteArray) (W : Grp) (ev : Ending) (w' : World) : Prop :=
  ev = .returned (.tuple #[]) ∧ ∃ vh' us', RefAt (more N w w') w' r vh' (.slice none 0 0) (.slice none 0 0) us' [] (rsync H W) [] ∧ Keep (fun x => x = r) w w'

theorem rsync_end {N : Nat → Prop} {w w1 wr : World} {r : Nat} {vh vw vs : Value} {us : List Value} {ks : List (Nat × Value)} {H : List ByteArray} {W : Grp} (h : RefAt N w r vh vw vs us ks H W) {g : Nat} {v : Value} (hs : RSyncAt N w w1 g v H W W.length wr) (kk : Keep (fun _ => False) w w1)
    (hg : w.heap.size ≤ g) (hv : ∀ b, v.ownBlock = some b → b = g) :
    RSyncR N w r H W (.returned (.tuple #[])) (((wr.setCell ⟨r, 0, none⟩ v).setCell ⟨r, 1, none⟩ (.slice none 0 0)).setCell ⟨r, 2, none⟩ (.slice none 0 0)) := by
  have hlt0 := lt_of_block h.head
  obtain ⟨us', h1, h2⟩ := hs.ex
  rw [List.take_length] at h2
  have kw : Keep (fun _ => False) w wr := kk.trans hs.keep (fun x e => .inr (by omega))
  have kr : Keep (fun x => x = r) wr (((wr.setCell ⟨r, 0, none⟩ v).setCell ⟨r, 1, none⟩ (.slice none 0 0)).setCell ⟨r, 2, none⟩ (.slice none 0 0)) := (((Keep.refl (fun x => x = r) wr).setCell _ _ (.inl rfl)).setCell _ _ (.inl rfl)).setCell _ _ (.inl rfl)
  have h4 := (kw.mono (G := fun x => x = r) (fun _ _ h => h.elim)).trans kr (fun x h => .inl h)
  have h3 := h1.keep kr (fun x hx e => by have := hv x hx; omega)
  have hh : (((wr.setCell ⟨r, 0, none⟩ v).setCell ⟨r, 1, none⟩ (.slice none 0 0)).setCell ⟨r, 2, none⟩ (.slice none 0 0)).heap[r]? = some (.cells #[v, .slice none 0 0, .slice none 0 0] 64 (0, 0)) := by
    have e0 := (kw.block r hlt0 (fun h => h)).trans h.head
    rw [heap_setCell_at _ (heap_setCell_at _ (heap_setCell_at _ e0))]; rfl
  generalize ((wr.setCell ⟨r, 0, none⟩ v).setCell ⟨r, 1, none⟩ (.slice none 0 0)).setCell ⟨r, 2, none⟩ (.slice none 0 0) = w' at *
  have hout : ¬ more N w w' r := fun hr => by
    rcases hr with hr | hr
    · exact h.out hr
    · omega
  refine ⟨rfl, v, us', ⟨hh, ⟨by rw [rsync_length]; exact h3, fun b hb => .inr ⟨by rw [hv b hb]; exact hg, h3.lt hb⟩, fun j hj => ?_⟩, ⟨Row.nil _ _ _, fun b hb => by simp [Value.ownBlock] at hb, rfl, fun k hk => by simp at hk⟩, hout⟩, h4⟩
  rw [rsync_length] at hj
  obtain ⟨u, h5, h6⟩ := h2 j hj
  refine ⟨u, h5, ?_⟩
  have : (rsync H W)[j]'(by rw [rsync_length]; exact hj) = (rsync H W).getD j default := by rw [List.getD_eq_getElem?_getD, List.getElem?_eq_getElem (by rw [rsync_length]; exact hj)]; rfl
  rw [this]
  exact (h6.keep h4 (fun x hx e => h.out (e ▸ hx))).mono (fun _ h => .inl h)

set_option maxHeartbeats 4000000 in
theorem refsync_any {w : World} {N : Nat → Prop} {r : Nat} {vh vw vs : Value} {us : List Value} {ks : List (Nat × Value)} {H : List ByteArray} {W : Grp} (h : RefAt N w r vh vw vs us ks H W) (hin : ∀ x ∈ W, x.1 < H.length) (hW : W.length ≤ 40) (hH : H.length = 128) :
    Calls Tryz.prog 27 #[.pointer (some ⟨r, 0, none⟩)] w (RSyncR N w r H W) := by
  have HR := Lib.hid h; have HIN := Lib.hid hin
  obtain ⟨i0, hi0, hz0, hz1, hz2⟩ := info_parts Tryz.infoHome
  have HI := Lib.hid hi0; have HZ0 := Lib.hid hz0; have HZ1 := Lib.hid hz1; have HZ2 := Lib.hid hz2
  have c0 := h.cell 0
  have c1 := h.cell 1
  simp only [List.getElem?_toArray, List.getElem?_cons_zero, List.getElem?_cons_succ] at c0 c1
  have HV := Lib.hid h.wait; have HHM := Lib.hid h.homes
  obtain ⟨aw, capw, rfl, hcw, hcw2⟩ := h.wait.row.slice
  obtain ⟨gh, oh, caph, rfl, hch, hch2⟩ := h.homes.row.full (by omega)
  unfold maxLen at hcw2 hch2
  obtain ⟨n, hn⟩ : ∃ n, n = W.length := ⟨_, rfl⟩
  have HNW := Lib.hid hn
  have HHL := Lib.hid hH
  rw [← hn] at HR HV c1 hcw hW
  rw [hH] at HR HHM c0 hch
  clear h hin hi0 hz0 hz1 hz2 hn hH
  have HROW : Hid (Row w 35 1 (.slice (some ⟨gh, oh, none⟩) 128 caph) 128 us) := Lib.hid (by have := HHM.out.row; rw [HHL.out] at this; exact this)
  go_enter Tryz.func27, Tryz.ntmps27
  go_wp2_with (at_builtin; go_loud (refine wpList_append_row _ rfl (.const (.slice none 0 0)) (.tmp 7) rfl Tryz.underlying61 HI.out HZ0.out HZ1.out HZ2.out rfl rfl (Row.nil _ _ _) rfl (HROW.out.src Tryz.underlying61 HHM.out.one) (by unfold maxLen; omega) (by omega) ?k1))
  case k1 =>
    intro v8 w1 r1 r2 r3 _
    obtain ⟨g8, o8, cap8, rfl, hc8, _⟩ := r1.full (by omega)
    have hg8 : w.heap.size ≤ g8 ∧ g8 < w1.heap.size := by
      rcases r3 g8 rfl with h | h
      · simp [Value.ownBlock] at h
      · exact h
    have k1 : Keep (fun _ => False) w w1 := r2.mono (fun x _ hx => by simp [Value.ownBlock] at hx)
    have hne8 : ¬ r = g8 := by have := lt_of_block HR.out.head; omega
    have K1 := Lib.hid k1; have G8 := Lib.hid hg8
    have H0 : Hid (RSyncAt N w w1 g8 (.slice (some ⟨g8, o8, none⟩) 128 cap8) H W 0 w1) := Lib.hid ⟨⟨us, by rw [HHL.out]; exact r1, fun j hj => by
      obtain ⟨u, h1, h2⟩ := HHM.out.each j hj
      refine ⟨u, h1, ?_⟩
      have e : (rsync H (W.take 0)).getD j default = H[j] := by simp [rsync, List.getD_eq_getElem?_getD, hj]
      rw [e]; exact h2⟩, Keep.refl _ _⟩
    clear r1 r2 r3 k1 hg8
    go_wp2
    go_loopw [3] (fun i wr => ∃ k : Nat, k ≤ n ∧ i = .int .i64 k ∧ RSyncAt N w w1 g8 (.slice (some ⟨g8, o8, none⟩) 128 cap8) H W k wr) (fun i _ => n - (intOf i).toNat)
    case atStart => exact ⟨0, by omega, rfl, H0.out⟩
    case round =>
      obtain ⟨k, hk, rfl, hF⟩ := hrel
      have HF := Lib.hid hF
      clear hF H0
      have HKW : Hid (Keep (fun _ => False) w wr) := Lib.hid (K1.out.trans HF.out.keep (fun x e => .inr (by have := G8.out; omega)))
      have hlt0 := lt_of_block HR.out.head
      have hrh := (HKW.out.block r hlt0 (fun h => h)).trans HR.out.head
      have d0 : wr.cell? ⟨r, 0, none⟩ = some (.slice (some ⟨gh, oh, none⟩) 128 caph) := (cell_of_row _ _ _ _ _ _ hrh).trans rfl
      have d1 : wr.cell? ⟨r, 1, none⟩ = some (.slice aw n capw) := (cell_of_row _ _ _ _ _ _ hrh).trans rfl
      have d2 : (wr.cell? ⟨r, 2, none⟩) = some vs := (cell_of_row _ _ _ _ _ _ hrh).trans rfl
      have e0 : wr.frozen? ⟨r, 0, none⟩ = false := frozen_of_row _ _ _ _ _ hrh
      have e1 : wr.frozen? ⟨r, 1, none⟩ = false := frozen_of_row _ _ _ _ _ hrh
      have e2 : wr.frozen? ⟨r, 2, none⟩ = false := frozen_of_row _ _ _ _ _ hrh
      clear hrh hlt0
      by_cases hlt : k < n
      · have hkW : k < W.length := by rw [← HNW.out]; exact hlt
        have HV2 := Lib.hid (HV.out.keep HKW.out (fun _ _ h => h))
        obtain ⟨gw, ow, rfl⟩ : ∃ gw ow, aw = some ⟨gw, ow, none⟩ := by
          obtain ⟨g, o, cap, e, _⟩ := HV.out.row.full (by omega)
          simp only [Value.slice.injEq] at e
          exact ⟨g, o, e.1⟩
        have hk' : k < ks.length := by rw [HV.out.len]; exact hkW
        have x0 := HV2.out.key (by rw [HNW.out]) k hkW
        have x1 : wr.cell? ⟨gw, ow + k * 2 + 1, none⟩ = some (ks[k]).2 := by
          have hr := HV2.out.row
          rw [← HNW.out] at hr
          rw [Nat.add_assoc, hr.cellAt (k * 2 + 1) (by omega), (wcells_get ks k hk').2]
        have HU := Lib.hid (HV.out.each k hkW hk').2
        have hkey : (W[k]).1 < 128 := by rw [← HHL.out]; exact HIN.out _ (List.getElem_mem hkW)
        have HST : Hid (∀ u, SecI N w u (W[k]).2 → RSyncAt N w w1 g8 (.slice (some ⟨g8, o8, none⟩) 128 cap8) H W (k + 1) (wr.setCell ⟨g8, o8 + (W[k]).1, none⟩ u)) := Lib.hid (fun u hu => by
          have h := HF.out
          rw [← HHL.out] at h ⊢
          exact h.step hkW (HIN.out _ (List.getElem_mem hkW)) hu)
        obtain ⟨us', hus, _⟩ := HF.out.ex
        rw [HHL.out] at hus
        obtain ⟨hth1, hth2⟩ := hus.there (W[k]).1 (by omega)
        obtain ⟨cv, hcv⟩ := Option.isSome_iff_exists.1 hth1
        have hst := HST.out _ HU.out
        obtain ⟨a2, cap2, hv2, _, _⟩ := HU.out.row.slice
        rw [hv2] at x1 hst
        have HST2 := Lib.hid hst
        generalize (W[k]).1 = key at *
        clear hus hth1 HST hst HU hv2
        go_wp2
        go_region
        all_goals go_wp2
        all_goals
          refine ⟨⟨k + 1, by omega, by go_num, ⟨HST2.out.ex, HST2.out.keep.drew⟩⟩, ?_⟩
          simp [intOf]
          omega
      · obtain rfl : k = n := by omega
        have hX := rsync_end HR.out (by have h7 := HF.out; rw [HNW.out] at h7; exact h7) K1.out G8.out.1 (fun b hb => by simp [Value.ownBlock] at hb; exact hb.symm)
        have HX := Lib.hid hX
        clear hX
        go_wp2
        refine bodyPost_ret (results_none rfl _ _ _) rfl ?_
        exact HX.out

end Go.Proofs.YtibmillfankjfaaGreatDoor
