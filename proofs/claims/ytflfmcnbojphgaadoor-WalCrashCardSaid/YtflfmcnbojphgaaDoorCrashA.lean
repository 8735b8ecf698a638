/- The log, the reference and the states of WalCrash in one memory. -/
import Derived.Test.YtflfmcnbojphgaaDoorTwo
import Derived.Test.YtflfmcnbojphgaaDoorFullP
import Derived.Test.YtflfmcnbojphgaaDoorArgsO
namespace Go.Proofs.YtflfmcnbojphgaaDoor
open Go.RowKit
set_option maxRecDepth 100000

/-- All that the reference's side owns. -/
def Own (N : Nat → Prop) (r : Nat) (vst : Value) : Nat → Prop := fun x => N x ∨ x = r ∨ vst.ownBlock = some x

/-- The reference beside the log's side T, and the list of states. -/
structure CM (w : World) (T : (Nat → Prop) → World → Prop) (r : Nat) (N : Nat → Prop) (vh vw : Value) (us : List Value) (ks : List (Nat × Value)) (H : List ByteArray) (W : Grp) (vst : Value) (sts : List Value) (wr : World) : Prop where
  ref : RefAt N wr r vh vw (.slice none 0 0) us ks H W
  nlt : ∀ x, N x → w.heap.size ≤ x ∧ x < wr.heap.size
  rnew : w.heap.size ≤ r
  row : Row wr 34 1 vst sts.length sts
  own : ∀ k, vst.ownBlock = some k → ¬ N k ∧ k ≠ r ∧ w.heap.size ≤ k
  side : T (Own N r vst) wr

section
variable {w : World} {T T' : (Nat → Prop) → World → Prop} {r : Nat} {N : Nat → Prop} {vh vw : Value} {us : List Value} {ks : List (Nat × Value)} {H : List ByteArray} {W : Grp} {vst : Value} {sts : List Value} {wr w' : World}

theorem CM.lt (h : CM w T r N vh vw us ks H W vst sts wr) : ∀ x, Own N r vst x → x < wr.heap.size := fun x hx => by
  rcases hx with hx | rfl | hx
  · exact (h.nlt x hx).2
  · exact lt_of_block h.ref.head
  · exact h.row.lt hx

theorem CM.new (h : CM w T r N vh vw us ks H W vst sts wr) : ∀ x, Own N r vst x → w.heap.size ≤ x := fun x hx => by
  rcases hx with hx | rfl | hx
  · exact (h.nlt x hx).1
  · exact h.rnew
  · exact (h.own x hx).2.2

/-- The log's side has turned. -/
theorem CM.log (h : CM w T r N vh vw us ks H W vst sts wr) (k : Keep (fun x => ¬ Own N r vst x) wr w') (t : T' (Own N r vst) w') : CM w T' r N vh vw us ks H W vst sts w' :=
  ⟨h.ref.keep k (fun _ hx hn => hn (.inl hx)) (fun hn => hn (.inr (.inl rfl))), fun x hx => ⟨(h.nlt x hx).1, Nat.lt_of_lt_of_le (h.nlt x hx).2 k.size⟩, h.rnew, h.row.keep k (fun _ hx hn => hn (.inr (.inr hx))), h.own, t⟩

theorem CM.go (hT : Side w T) (h : CM w T r N vh vw us ks H W vst sts wr) (k : Keep (fun _ => False) wr w') : CM w T r N vh vw us ks H W vst sts w' :=
  h.log (k.mono (fun _ _ h => h.elim)) (hT.sub (hT.other h.side k (fun _ h => h.elim) (fun _ h => h.elim)) (fun _ hx => .inl hx))

/-- The reference has turned. -/
theorem CM.turn (hT : Side w T) (h : CM w T r N vh vw us ks H W vst sts wr) {vh' vw' : Value} {us' : List Value} {ks' : List (Nat × Value)} {H' : List ByteArray} {W' : Grp} (hr : RefAt (more N wr w') w' r vh' vw' (.slice none 0 0) us' ks' H' W') (k : Keep (fun x => x = r) wr w') :
    CM w T r (more N wr w') vh' vw' us' ks' H' W' vst sts w' := by
  have hs := h.side
  have hlt := lt_of_block h.ref.head
  refine ⟨hr, fun x hx => ?_, h.rnew, h.row.keep k (fun x hx e => (h.own x hx).2.1 e), fun x hx => ⟨fun hn => ?_, (h.own x hx).2⟩, ?_⟩
  · have := h.ref
    have hw := (hT.keep h.side).size
    have := k.size
    rcases hx with hx | hx
    · have := h.nlt x hx; omega
    · omega
  · rcases hn with hn | hn
    · exact (h.own x hx).1 hn
    · have := h.row.lt hx; omega
  · refine hT.sub (hT.other hs k (fun x e => .inr (.inl e)) (fun x e => by rw [e]; exact h.rnew)) (fun x hx => ?_)
    rcases hx with (hx | hx) | hx
    · exact .inl (.inl hx)
    · exact .inr hx
    · exact .inl (.inr hx)

/-- A state more. -/
theorem CM.push (hT : Side w T) (h : CM w T r N vh vw us ks H W vst sts wr) {vst' : Value} {u : Value} (hr : Row w' 34 1 vst' (sts.length + 1) (sts ++ [u])) (k : Keep (fun x => vst.ownBlock = some x) wr w') (ho : ∀ b, vst'.ownBlock = some b → vst.ownBlock = some b ∨ (wr.heap.size ≤ b ∧ b < w'.heap.size)) :
    CM w T r N vh vw us ks H W vst' (sts ++ [u]) w' := by
  have hlt := lt_of_block h.ref.head
  have hw := (hT.keep h.side).size
  refine ⟨h.ref.keep k (fun x hx e => (h.own x e).1 hx) (fun e => (h.own r e).2.1 rfl), fun x hx => ⟨(h.nlt x hx).1, Nat.lt_of_lt_of_le (h.nlt x hx).2 k.size⟩, h.rnew, by rw [List.length_append]; exact hr, fun x hx => ?_, ?_⟩
  · rcases ho x hx with h1 | h1
    · exact h.own x h1
    · exact ⟨fun hn => by have := h.nlt x hn; omega, by omega, by omega⟩
  · refine hT.sub (hT.other h.side k (fun x e => .inr (.inr e)) (fun x e => (h.own x e).2.2)) (fun x hx => ?_)
    rcases hx with hx | hx | hx
    · exact .inl (.inl hx)
    · exact .inl (.inr (.inl hx))
    · rcases ho x hx with h1 | h1
      · exact .inl (.inr (.inr h1))
      · exact .inr h1

end

/-- What the law knows of disk and reference while the disk lives. -/
structure CP (D : Dk) (H : List ByteArray) (W g : Grp) (vh : Value) (sts : List Value) (synced : Nat) : Prop where
  len : sts.length = synced + 1
  last : sts[synced]? = some vh
  clean : Clean D 128
  home : HomeIs D H
  refis : RefIs W g
  hlen : H.length = 128
  wlen : W.length ≤ 40
  win : ∀ x ∈ W, 48 ≤ x.1 ∧ x.1 < 128
  gin : GIn D g
  live : deadB D = false

theorem rput_mem {W : Grp} {i : Nat} {s : ByteArray} {x : Nat × ByteArray} (h : x ∈ rput W i s) : x = (i, s) ∨ x ∈ W := by
  unfold rput at h
  split at h
  · obtain ⟨y, hy, rfl⟩ := List.mem_map.1 h
    split
    · exact .inl rfl
    · exact .inr hy
  · rcases List.mem_append.1 h with h | h
    · exact .inr h
    · exact .inl (by simpa using h)

theorem CP.put {D : Dk} {H : List ByteArray} {W g : Grp} {vh : Value} {sts : List Value} {synced : Nat} (h : CP D H W g vh sts synced) (hg : GOk g) {i : Nat} (h1 : 48 ≤ i) (h2 : i < 128) {s : ByteArray} (hf : (glook W i).isSome = true ∨ W.length < 40) : CP D H (rput W i s) (gput g i s) vh sts synced := by
  refine ⟨h.len, h.last, h.clean, h.home, h.refis.put hg i s, h.hlen, ?_, fun x hx => ?_, fun x hx => ?_, h.live⟩
  · rw [rput_length]
    have := h.wlen
    split
    · exact this
    · rename_i hn
      rcases hf with hf | hf
      · exact absurd hf hn
      · omega
  · rcases rput_mem hx with rfl | hx
    · exact ⟨h1, h2⟩
    · exact h.win x hx
  · rcases (gput_mem _ _ _ x).1 hx with rfl | ⟨hx, _⟩
    · exact ⟨h1, by rw [h.clean.len]; exact h2⟩
    · exact h.gin x hx

theorem CP.sync {D : Dk} {H : List ByteArray} {W g : Grp} {vh : Value} {sts : List Value} {synced : Nat} (h : CP D H W g vh sts synced) (hg : GOk g) (hd : deadB (syncD D g) = false) (vh' : Value) : CP (syncD D g) (rsync H W) [] [] vh' (sts ++ [vh']) (synced + 1) := by
  have hw := h.wlen
  have hl := h.refis.len
  obtain ⟨c1, v1⟩ := sync_clean h.clean hg h.gin (by omega) (by omega) hd
  refine ⟨by simp [h.len], by rw [List.getElem?_append_right (by rw [h.len]; omega), h.len]; simp, c1, fun i a b => ?_, RefIs.nil, by rw [rsync_length]; exact h.hlen, by simp, by simp, fun x hx => by simp at hx, hd⟩
  rw [v1 i a b]
  exact sync_homes h.home h.refis h.hlen i a b

/-- Behind a Sync that died. -/
theorem CP.died {D : Dk} {H : List ByteArray} {W g : Grp} {vh : Value} {sts : List Value} {synced : Nat} (h : CP D H W g vh sts synced) (hg : GOk g) (bs : List Bool) :
    Either 128 (fun i => H.getD i default) (fun i => (rsync H W).getD i default) (rh (putAll (syncD D g).las (pick (syncD D g).cache bs))) := by
  have hw := h.wlen
  have hl := h.refis.len
  have hlen := h.clean.len
  have k := sync_leaves h.clean.cache hg h.gin (by omega) (by omega) h.clean.head
  rw [hlen] at k
  rcases k.crash bs with kc | kc
  · exact .inl (fun i a b => (kc i a b).trans (h.home i a b))
  · exact .inr (fun i a b => (kc i a b).trans (sync_homes h.home h.refis h.hlen i a b))

theorem CP.ne {D : Dk} {H : List ByteArray} {W g : Grp} {vh : Value} {sts : List Value} {synced : Nat} (h : CP D H W g vh sts synced) (hd : deadB (syncD D g) = true) : g.length ≠ 0 := fun e => by
  have : g = [] := List.eq_nil_of_length_eq_zero e
  subst this
  have hs : syncD D [] = D := rfl
  rw [hs, h.live] at hd
  cases hd

end Go.Proofs.YtflfmcnbojphgaaDoor
