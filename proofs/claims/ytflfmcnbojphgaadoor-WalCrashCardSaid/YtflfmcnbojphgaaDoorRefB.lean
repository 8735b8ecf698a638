/- What 'home' answers, and what the reference log's Put and Sync do. -/
import Derived.Test.YtflfmcnbojphgaaDoorRefA
import Derived.Test.YtflfmcnbojphgaaDoorW3
namespace Go.Proofs.YtflfmcnbojphgaaDoor
open Go.RowKit
set_option maxRecDepth 100000

theorem sec_string {w : World} {g off cap : Nat} {e : TypeId} {s : ByteArray} (h : Row w e 1 (.slice (some ⟨g, off, none⟩) 512 cap) 512 (byteCells s)) (hs : s.size = 512) :
    (convert 40 9 (.slice (some ⟨g, off, none⟩) 512 cap)).run Tryd.prog w = .ok (.string s) w := by
  have hb : BytesAt w g off s.data.toList := by
    intro j hj
    have hj' : j < s.size := by simpa using hj
    rw [h.cellAt j (by omega), byteCells_get s j hj']
    rfl
  have := run_string_of_bytes (P := Tryd.prog) hb 40 9 5 512 cap (by rw [Array.length_toList]; exact hs) Tryd.underlying40 Tryd.underlying5 Tryd.underlying9
  rw [this]

set_option maxHeartbeats 2000000 in
theorem home_any {w0 w : World} {N : Nat → Prop} {p q n : Nat} {S : LogS} {vh : Value} {us : List Value} {H : List ByteArray} (h : Lg w0 w p q S n) (hlen : S.D.las.length = 128) (hH : HomesAt N w vh us H) (hl : H.length = 128) (hw : S.wait = []) :
    Calls Tryd.prog 16 #[.pointer (some ⟨q, 0, none⟩), vh] w fun e w' => (∃ b, e = .returned (.bool b) ∧ ((∀ i, 48 ≤ i → i < 128 → S.read i = H.getD i default) → b = true)) ∧ Keep (fun _ => False) w w' := by
  have HL := Lib.hid h; have HH := Lib.hid hH; have HLEN := Lib.hid hlen; have HHL := Lib.hid hl; have HW := Lib.hid hw
  obtain ⟨gh, oh, caph, rfl, hca, hcb⟩ := hH.row.full (by omega)
  unfold maxLen at hcb
  rw [hl] at hca HH ⊢
  clear h hH hlen hw hl
  go_enter Tryd.func16, Tryd.ntmps16
  go_wp2
  go_loopw [5] (fun i wr => ∃ k : Nat, 48 ≤ k ∧ k ≤ 128 ∧ i = .int .i64 k ∧ Lg w0 wr p q S n ∧ Keep (fun _ => False) w wr) (fun i _ => 128 - (intOf i).toNat)
  case atStart => exact ⟨48, by omega, by omega, rfl, HL.out, Keep.refl _ _⟩
  case round =>
    obtain ⟨k, hk1, hk2, rfl, hF, hK⟩ := hrel
    have HF := Lib.hid hF; have HK := Lib.hid hK
    clear hF hK
    by_cases hlt : k < 128
    · go_wp2_with fail
      refine (read_g HF.out k _ rfl (by rw [HLEN.out]; exact home_in hk1 hlt)).mono ?_
      rintro e w1 ⟨v, rfl, hn, h1⟩
      obtain ⟨e1, g1, cap1, rfl, hr1, _⟩ := hn.row
      have hs1 := hn.size
      have HK1 := Lib.hid (HK.out.trans hn.keep (fun _ h => h.elim))
      have H1 := Lib.hid h1
      obtain ⟨u, hu, hsu⟩ := (HH.out.keep HK1.out (fun _ _ h => h)).each k (by rw [HHL.out]; exact hlt)
      have hc0 : w1.cell? ⟨gh, oh + k, none⟩ = some u := by
        have hrow := HH.out.row.keep HK1.out (fun _ _ h => h)
        rw [HHL.out] at hrow
        rw [hrow.cellAt k (by omega)]; exact hu
      obtain ⟨gu, ou, capu, rfl, _, _⟩ := hsu.row.full (by omega)
      have q1 := sec_string hr1.drew hs1
      have q2 := sec_string hsu.row.drew hsu.size
      have HX : Hid (H.getD k default = H[k]'(by rw [HHL.out]; exact hlt)) := Lib.hid (by simp [List.getD_eq_getElem?_getD, HHL.out, hlt])
      generalize H[k]'(by rw [HHL.out]; exact hlt) = s2 at *
      have HS1 : Hid (S.read k = S.read k) := Lib.hid rfl
      obtain ⟨s1, hs1e⟩ : ∃ s1, S.read k = s1 := ⟨_, rfl⟩
      rw [hs1e] at q1
      have HS := Lib.hid hs1e
      clear hn hr1 hs1 h1 hu hsu hs1e HS1
      by_cases heq : s1 = s2
      · subst heq
        go_wp2
        go_region
        all_goals go_wp2
        all_goals
          refine ⟨⟨k + 1, by omega, by omega, by go_num, H1.out.go (Keep.refl _ w1).drew, HK1.out.drew⟩, ?_⟩
          simp [intOf]
          omega
      · have hne : (s1.toList == s2.toList) = false := by
          rw [ByteArray.toList_eq, ByteArray.toList_eq, beq_eq_false_iff_ne]
          intro e
          apply heq
          obtain ⟨a⟩ := s1
          obtain ⟨b⟩ := s2
          exact congrArg ByteArray.mk (Array.toList_inj.1 e)
        have hne2 : (!s1.toList == s2.toList) = true := by rw [hne]; rfl
        have HQ := Lib.hid heq
        have HKL : Hid (48 ≤ k ∧ k < 128) := Lib.hid ⟨hk1, hlt⟩
        clear heq
        go_wp2
        go_region
        all_goals go_wp2
        all_goals go_ret
        all_goals exact ⟨⟨false, rfl, fun hall => (HQ.out (by rw [← HS.out, hall k HKL.out.1 HKL.out.2, HX.out])).elim⟩, HK1.out.drew⟩
    · obtain rfl : k = 128 := by omega
      have HWL : Hid (((S.wait.length : Nat) : Int) = 0) := Lib.hid (by rw [HW.out]; rfl)
      go_wp2_with (go_at_call 30; refine (wait_g HF.out).mono ?_; rw [HWL.out]; rintro e w' ⟨rfl, rfl⟩)
      go_ret
      exact ⟨⟨true, rfl, fun _ => rfl⟩, HK.out⟩

theorem rput_set {W : Grp} (hn : (W.map (·.1)).Nodup) {i : Nat} (s : ByteArray) {k : Nat} (hk : k < W.length) (he : (W[k]).1 = i) : rput W i s = W.set k (i, s) := by
  have hsome : (glook W i).isSome = true := by
    cases e : glook W i with
    | some t => rfl
    | none =>
      have := glook_noneW (W := W) (i := i) (by rw [e]; rfl)
      exact (this (List.mem_map.2 ⟨W[k], List.getElem_mem hk, he⟩)).elim
  unfold rput
  rw [if_pos hsome]
  apply List.ext_getElem
  · simp
  · intro j h1 h2
    have hj : j < W.length := by simpa using h1
    rw [List.getElem_map, List.getElem_set]
    by_cases e : k = j
    · subst e; simp [he]
    · rw [if_neg e, if_neg]
      intro h3
      have h4 := List.pairwise_iff_getElem.1 hn
      rcases Nat.lt_or_gt_of_ne e with h5 | h5
      · exact h4 k j (by simpa using hk) (by simpa using hj) h5 (by simp [h3, he])
      · exact h4 j k (by simpa using hj) (by simpa using hk) h5 (by simp [h3, he])

theorem rput_new {W : Grp} {i : Nat} (s : ByteArray) (h : ∀ k (h : k < W.length), (W[k]).1 ≠ i) : rput W i s = W ++ [(i, s)] := by
  unfold rput
  rw [if_neg]
  intro hs
  obtain ⟨t, ht⟩ := Option.isSome_iff_exists.1 hs
  simp only [glook, Option.map_eq_some_iff] at ht
  obtain ⟨x, hx, _⟩ := ht
  obtain ⟨k, hk, rfl⟩ := List.mem_iff_getElem.1 (List.mem_of_find?_eq_some hx)
  have := List.find?_some hx
  exact h k hk (by simpa using this)

/-- N and what is new. -/
def more (N : Nat → Prop) (w w' : World) : Nat → Prop := fun x => N x ∨ (w.heap.size ≤ x ∧ x < w'.heap.size)

theorem RefAt.turnW {N : Nat → Prop} {w w' : World} {r : Nat} {vh vw vs vw' : Value} {us : List Value} {ks ks' : List (Nat × Value)} {H : List ByteArray} {W W' : Grp} (h : RefAt N w r vh vw vs us ks H W) (k : Keep (fun x => x = r) w w')
    (hh : w'.heap[r]? = some (.cells #[vh, vw', vs] 37 (0, 0))) (hw : WaitAt (more N w w') w' vw' ks' W') : RefAt (more N w w') w' r vh vw' vs us ks' H W' :=
  ⟨hh, (h.homes.keep k (fun x hx e => h.out (e ▸ hx))).mono (fun _ h => .inl h), hw, fun hr => by
    rcases hr with hr | hr
    · exact h.out hr
    · have := lt_of_block h.head; omega⟩

/-- Put of one that waits already. -/
theorem WaitAt.set {N : Nat → Prop} {w w' : World} {v v8 v36 : Value} {ks : List (Nat × Value)} {W : Grp} (h : WaitAt N w v ks W) {F : Nat → Prop} (k' : Keep F w w') (hF : ∀ x, N x → ¬ F x) {k : Nat} (hk : k < W.length) (i : Nat) (hi : (W[k]).1 = i) (s : ByteArray)
    (hr : Row w' 71 2 v8 W.length ((wcells ks).set (k * 2 + 1) v36)) (ho : InN (more N w w') v8) (hs : SecI (more N w w') w' v36 s) : WaitAt (more N w w') w' v8 (ks.set k (i, v36)) (W.set k (i, s)) := by
  have hk' : k < ks.length := by rw [h.len]; exact hk
  have hik := (h.each k hk hk').1
  refine ⟨?_, ho, by simp [h.len], fun j hj hj' => ?_⟩
  · rw [List.length_set, show (i, v36) = ((ks[k]).1, v36) by rw [hik, hi], ← wcells_set _ _ hk']
    exact hr
  · rw [List.getElem_set, List.getElem_set]
    by_cases e : k = j
    · simp only [e, if_true]; exact ⟨trivial, hs⟩
    · simp only [e, if_false]
      have hjW : j < W.length := by simpa using hj
      have := h.each j hjW (by rw [h.len]; exact hjW)
      exact ⟨this.1, (this.2.keep k' hF).mono (fun _ h => .inl h)⟩

/-- Put of one more. -/
theorem WaitAt.push {N : Nat → Prop} {w w' : World} {v v8 v36 : Value} {ks : List (Nat × Value)} {W : Grp} (h : WaitAt N w v ks W) {F : Nat → Prop} (k' : Keep F w w') (hF : ∀ x, N x → ¬ F x) (i : Nat) (s : ByteArray)
    (hr : Row w' 71 2 v8 (W.length + 1) (wcells ks ++ [.int .i64 (i : Int), v36])) (ho : InN (more N w w') v8) (hs : SecI (more N w w') w' v36 s) : WaitAt (more N w w') w' v8 (ks ++ [(i, v36)]) (W ++ [(i, s)]) := by
  refine ⟨?_, ho, by simp [h.len], fun j hj hj' => ?_⟩
  · rw [List.length_append, wcells_append]; exact hr
  · by_cases e : j < W.length
    · rw [List.getElem_append_left e, List.getElem_append_left (by rw [h.len]; exact e)]
      have := h.each j e (by rw [h.len]; exact e)
      exact ⟨this.1, (this.2.keep k' hF).mono (fun _ h => .inl h)⟩
    · have hl := h.len
      have e2 : j = W.length := by simp at hj; omega
      subst e2
      rw [List.getElem_append_right (by omega), List.getElem_append_right (by omega)]
      simp only [hl, Nat.sub_self, List.getElem_cons_zero]
      exact ⟨trivial, hs⟩

end Go.Proofs.YtflfmcnbojphgaaDoor
