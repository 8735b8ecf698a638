/- What 'home' answers, and what the reference log's Put and Sync do. -/
import Derived.Test.YtibmillfankjfaaGreatDoorRefA
import Derived.Test.YtibmillfankjfaaGreatDoorW3
namespace Go.Proofs.YtibmillfankjfaaGreatDoor
open Go.RowKit
set_option maxRecDepth 100000


theorem rput_set {W : Grp} (hn : (W.map (·.1)).Nodup) {i : Nat} (s : ByteArray) {k : Nat} (hk : k < W.length) (he : (W[k]).1 = i) : rput W i s = W.set k (i, s) := by
  have hsome : (glook W i).isSome = true := by
    cases e : glook W i with
    | some t => rfl
    | none =>
      have := glook_noneW (W := W) (i := i) (by rw [e]; rfl)
      exact (this (List.mem_map.2 ⟨W[k], List.getElem_mem hk, he⟩)).elim
  unfold rput
  rw [if_pos hsome]
  apply List.ext_getElem
  · simp
  · intro j h1 h2
    have hj : j < W.length := by simpa using h1
    rw [List.getElem_map, List.getElem_set]
    by_cases e : k = j
    · subst e; simp [he]
    · rw [if_neg e, if_neg]
      intro h3
      have h4 := List.pairwise_iff_getElem.1 hn
      rcases Nat.lt_or_gt_of_ne e with h5 | h5
      · exact h4 k j (by simpa using hk) (by simpa using hj) h5 (by simp [h3, he])
      · exact h4 j k (by simpa using hj) (by simpa using hk) h5 (by simp [h3, he])

theorem rput_new {W : Grp} {i : Nat} (s : ByteArray) (h : ∀ k (h : k < W.length), (W[k]).1 ≠ i) : rput W i s = W ++ [(i, s)] := by
  unfold rput
  rw [if_neg]
  intro hs
  obtain ⟨t, ht⟩ := Option.isSome_iff_exists.1 hs
  simp only [glook, Option.map_eq_some_iff] at ht
  obtain ⟨x, hx, _⟩ := ht
  obtain ⟨k, hk, rfl⟩ := List.mem_iff_getElem.1 (List.mem_of_find?_eq_some hx)
  have := List.find?_some hx
  exact h k hk (by simpa using this)

/-- N and what is new. -/
def more (N : Nat → Prop) (w w' : World) : Nat → Prop := fun x => N x ∨ (w.heap.size ≤ x ∧ x < w'.heap.size)

theorem RefAt.turnW {N : Nat → Prop} {w w' : World} {r : Nat} {vh vw vs vw' : Value} {us : List Value} {ks ks' : List (Nat × Value)} {H : List ByteArray} {W W' : Grp} (h : RefAt N w r vh vw vs us ks H W) (k : Keep (fun x => x = r) w w')
    (hh : w'.heap[r]? = some (.cells #[vh, vw', vs] 64 (0, 0))) (hw : WaitAt (more N w w') w' vw' ks' W') : RefAt (more N w w') w' r vh vw' vs us ks' H W' :=
  ⟨hh, (h.homes.keep k (fun x hx e => h.out (e ▸ hx))).mono (fun _ h => .inl h), hw, fun hr => by
    rcases hr with hr | hr
    · exact h.out hr
    · have := lt_of_block h.head; omega⟩

/-- Put of one that waits already. -/
theorem WaitAt.set {N : Nat → Prop} {w w' : World} {v v8 v36 : Value} {ks : List (Nat × Value)} {W : Grp} (h : WaitAt N w v ks W) {F : Nat → Prop} (k' : Keep F w w') (hF : ∀ x, N x → ¬ F x) {k : Nat} (hk : k < W.length) (i : Nat) (hi : (W[k]).1 = i) (s : ByteArray)
    (hr : Row w' 93 2 v8 W.length ((wcells ks).set (k * 2 + 1) v36)) (ho : InN (more N w w') v8) (hs : SecI (more N w w') w' v36 s) : WaitAt (more N w w') w' v8 (ks.set k (i, v36)) (W.set k (i, s)) := by
  have hk' : k < ks.length := by rw [h.len]; exact hk
  have hik := (h.each k hk hk').1
  refine ⟨?_, ho, by simp [h.len], fun j hj hj' => ?_⟩
  · rw [List.length_set, show (i, v36) = ((ks[k]).1, v36) by rw [hik, hi], ← wcells_set _ _ hk']
    exact hr
  · rw [List.getElem_set, List.getElem_set]
    by_cases e : k = j
    · simp only [e, if_true]; exact ⟨trivial, hs⟩
    · simp only [e, if_false]
      have hjW : j < W.length := by simpa using hj
      have := h.each j hjW (by rw [h.len]; exact hjW)
      exact ⟨this.1, (this.2.keep k' hF).mono (fun _ h => .inl h)⟩

/-- Put of one more. -/
theorem WaitAt.push {N : Nat → Prop} {w w' : World} {v v8 v36 : Value} {ks : List (Nat × Value)} {W : Grp} (h : WaitAt N w v ks W) {F : Nat → Prop} (k' : Keep F w w') (hF : ∀ x, N x → ¬ F x) (i : Nat) (s : ByteArray)
    (hr : Row w' 93 2 v8 (W.length + 1) (wcells ks ++ [.int .i64 (i : Int), v36])) (ho : InN (more N w w') v8) (hs : SecI (more N w w') w' v36 s) : WaitAt (more N w w') w' v8 (ks ++ [(i, v36)]) (W ++ [(i, s)]) := by
  refine ⟨?_, ho, by simp [h.len], fun j hj hj' => ?_⟩
  · rw [List.length_append, wcells_append]; exact hr
  · by_cases e : j < W.length
    · rw [List.getElem_append_left e, List.getElem_append_left (by rw [h.len]; exact e)]
      have := h.each j e (by rw [h.len]; exact e)
      exact ⟨this.1, (this.2.keep k' hF).mono (fun _ h => .inl h)⟩
    · have hl := h.len
      have e2 : j = W.length := by simp at hj; omega
      subst e2
      rw [List.getElem_append_right (by omega), List.getElem_append_right (by omega)]
      simp only [hl, Nat.sub_self, List.getElem_cons_zero]
      exact ⟨trivial, hs⟩

end Go.Proofs.YtibmillfankjfaaGreatDoor
