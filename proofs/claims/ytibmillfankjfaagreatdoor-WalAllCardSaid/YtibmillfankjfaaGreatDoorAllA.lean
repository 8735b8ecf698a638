/- WalAll: the log, the reference with what it saved, and the law's own variable in one memory; what is known of them. -/
import Derived.Test.YtibmillfankjfaaGreatDoorMark
import Derived.Test.YtibmillfankjfaaGreatDoorRefE
namespace Go.Proofs.YtibmillfankjfaaGreatDoor
open Go.RowKit
set_option maxRecDepth 100000

/-- All that is not the log's. -/
def OwnA (N : Nat → Prop) (r B : Nat) : Nat → Prop := fun x => N x ∨ x = r ∨ x = B

structure AM (w : World) (T : (Nat → Prop) → World → Prop) (r B q : Nat) (N : Nat → Prop) (vh vw vs : Value) (us : List Value) (ks ks2 : List (Nat × Value)) (H : List ByteArray) (W W2 : Grp) (wr : World) : Prop where
  ref : RefAt N wr r vh vw vs us ks H W
  saved : WaitAt N wr vs ks2 W2
  nlt : ∀ x, N x → w.heap.size ≤ x ∧ x < wr.heap.size
  rnew : w.heap.size ≤ r
  var : wr.heap[B]? = some (.cells #[.pointer (some ⟨q, 0, none⟩)] 26 (0, 0))
  bnew : w.heap.size ≤ B ∧ B ≠ r ∧ ¬ N B
  side : T (OwnA N r B) wr

section
variable {w : World} {T T' : (Nat → Prop) → World → Prop} {r B q : Nat} {N : Nat → Prop} {vh vw vs : Value} {us : List Value} {ks ks2 : List (Nat × Value)} {H : List ByteArray} {W W2 : Grp} {wr w' : World}

theorem AM.lt (h : AM w T r B q N vh vw vs us ks ks2 H W W2 wr) : ∀ x, OwnA N r B x → x < wr.heap.size := fun x hx => by
  rcases hx with hx | rfl | rfl
  · exact (h.nlt x hx).2
  · exact lt_of_block h.ref.head
  · exact lt_of_block h.var

theorem AM.new (h : AM w T r B q N vh vw vs us ks ks2 H W W2 wr) : ∀ x, OwnA N r B x → w.heap.size ≤ x := fun x hx => by
  rcases hx with hx | rfl | rfl
  · exact (h.nlt x hx).1
  · exact h.rnew
  · exact h.bnew.1

/-- The log's side has turned. -/
theorem AM.log (h : AM w T r B q N vh vw vs us ks ks2 H W W2 wr) (k : Keep (fun x => ¬ OwnA N r B x) wr w') (t : T' (OwnA N r B) w') : AM w T' r B q N vh vw vs us ks ks2 H W W2 w' :=
  ⟨h.ref.keep k (fun _ hx hn => hn (.inl hx)) (fun hn => hn (.inr (.inl rfl))), h.saved.keep k (fun _ hx hn => hn (.inl hx)), fun x hx => ⟨(h.nlt x hx).1, Nat.lt_of_lt_of_le (h.nlt x hx).2 k.size⟩, h.rnew,
    (k.block B (lt_of_block h.var) (fun hn => hn (.inr (.inr rfl)))).trans h.var, h.bnew, t⟩

theorem AM.go (hT : Side w T) (h : AM w T r B q N vh vw vs us ks ks2 H W W2 wr) (k : Keep (fun _ => False) wr w') : AM w T r B q N vh vw vs us ks ks2 H W W2 w' :=
  h.log (k.mono (fun _ _ h => h.elim)) (hT.sub (hT.other h.side k (fun _ h => h.elim) (fun _ h => h.elim)) (fun _ hx => .inl hx))

/-- The reference has turned. -/
theorem AM.turn (hT : Side w T) (h : AM w T r B q N vh vw vs us ks ks2 H W W2 wr) {vh' vw' vs' : Value} {us' : List Value} {ks' ks2' : List (Nat × Value)} {H' : List ByteArray} {W' W2' : Grp} (hr : RefAt (more N wr w') w' r vh' vw' vs' us' ks' H' W') (hv : WaitAt (more N wr w') w' vs' ks2' W2') (k : Keep (fun x => x = r) wr w') :
    AM w T r B q (more N wr w') vh' vw' vs' us' ks' ks2' H' W' W2' w' := by
  have hs := h.side
  have hlt := lt_of_block h.ref.head
  have hltB := lt_of_block h.var
  have hw := (hT.keep h.side).size
  have hk := k.size
  refine ⟨hr, hv, fun x hx => ?_, h.rnew, (k.block B hltB h.bnew.2.1).trans h.var, ⟨h.bnew.1, h.bnew.2.1, fun hn => ?_⟩, ?_⟩
  · rcases hx with hx | hx
    · have := h.nlt x hx; omega
    · omega
  · rcases hn with hn | hn
    · exact h.bnew.2.2 hn
    · omega
  · refine hT.sub (hT.other hs k (fun x e => .inr (.inl e)) (fun x e => by rw [e]; exact h.rnew)) (fun x hx => ?_)
    rcases hx with (hx | hx) | hx
    · exact .inl (.inl hx)
    · exact .inr hx
    · exact .inl (.inr hx)

/-- What was saved stands as it stood. -/
theorem AM.still (h : AM w T r B q N vh vw vs us ks ks2 H W W2 wr) (k : Keep (fun x => x = r) wr w') : WaitAt (more N wr w') w' vs ks2 W2 :=
  (h.saved.keep k (fun _ hx e => h.ref.out (e ▸ hx))).mono (fun _ h => .inl h)

/-- The variable has turned. -/
theorem AM.turnB (hT : Side w T) (h : AM w T r B q N vh vw vs us ks ks2 H W W2 wr) (q' : Nat) : AM w T r B q' N vh vw vs us ks ks2 H W W2 (wr.setCell ⟨B, 0, none⟩ (.pointer (some ⟨q', 0, none⟩))) := by
  have k : Keep (fun x => x = B) wr (wr.setCell ⟨B, 0, none⟩ (.pointer (some ⟨q', 0, none⟩))) := (Keep.refl (fun x => x = B) wr).setCell _ _ (.inl rfl)
  refine ⟨h.ref.keep k (fun x hx e => h.bnew.2.2 (e ▸ hx)) (fun e => h.bnew.2.1 (show r = B from e).symm), h.saved.keep k (fun x hx e => h.bnew.2.2 (e ▸ hx)), fun x hx => by have := h.nlt x hx; simp; exact this, h.rnew, ?_, h.bnew, ?_⟩
  · rw [heap_setCell_at _ h.var]; rfl
  · exact hT.sub (hT.other h.side k (fun x e => .inr (.inr e)) (fun x e => by rw [e]; exact h.bnew.1)) (fun _ hx => .inl hx)

end

/-- What is known, plainly. -/
structure AP (D : Dk) (H : List ByteArray) (W W2 g m : Grp) (i : Nat) : Prop where
  clean : Clean D 128
  ok : D.Ok
  home : HomeIs D H
  refis : RefIs W g
  refis2 : RefIs W2 m
  hlen : H.length = 128
  wlen : W.length ≤ i
  wlen2 : W2.length ≤ i
  win : ∀ x ∈ W, 48 ≤ x.1 ∧ x.1 < 128
  win2 : ∀ x ∈ W2, 48 ≤ x.1 ∧ x.1 < 128
  gin : GIn D g
  gin2 : GIn D m
  lim : D.lim = false

theorem rput_memA {W : Grp} {i : Nat} {s : ByteArray} {x : Nat × ByteArray} (h : x ∈ rput W i s) : x = (i, s) ∨ x ∈ W := by
  unfold rput at h
  split at h
  · obtain ⟨y, hy, rfl⟩ := List.mem_map.1 h
    split
    · exact .inl rfl
    · exact .inr hy
  · rcases List.mem_append.1 h with h | h
    · exact .inr h
    · exact .inl (by simpa using h)

section
variable {D : Dk} {H : List ByteArray} {W W2 g m : Grp} {i : Nat}

theorem AP.later (h : AP D H W W2 g m i) {j : Nat} (hj : i ≤ j) : AP D H W W2 g m j :=
  ⟨h.clean, h.ok, h.home, h.refis, h.refis2, h.hlen, Nat.le_trans h.wlen hj, Nat.le_trans h.wlen2 hj, h.win, h.win2, h.gin, h.gin2, h.lim⟩

theorem AP.live (h : AP D H W W2 g m i) : deadB D = false := Go.Proofs.YtibmillfankjfaaGreatDoor.live h.lim

theorem AP.put (h : AP D H W W2 g m i) (hg : GOk g) {j : Nat} (h1 : 48 ≤ j) (h2 : j < 128) {s : ByteArray} : AP D H (rput W j s) W2 (gput g j s) m (i + 1) := by
  refine ⟨h.clean, h.ok, h.home, h.refis.put hg j s, h.refis2, h.hlen, ?_, by have := h.wlen2; omega, fun x hx => ?_, h.win2, fun x hx => ?_, h.gin2, h.lim⟩
  · rw [rput_length]
    have := h.wlen
    split <;> omega
  · rcases rput_memA hx with rfl | hx
    · exact ⟨h1, h2⟩
    · exact h.win x hx
  · rcases (gput_mem _ _ _ x).1 hx with rfl | ⟨hx, _⟩
    · exact ⟨h1, by rw [h.clean.len]; exact h2⟩
    · exact h.gin x hx

theorem AP.sync (h : AP D H W W2 g m i) (hg : GOk g) (hi : i ≤ 40) (hok : (syncD D g).Ok) : AP (syncD D g) (rsync H W) [] [] [] [] (i + 1) := by
  have hw := h.wlen
  have hl := h.refis.len
  have hlm : (syncD D g).lim = false := by rw [sync_lim]; exact h.lim
  obtain ⟨c1, v1⟩ := sync_clean h.clean hg h.gin (by omega) (by omega) (Go.Proofs.YtibmillfankjfaaGreatDoor.live hlm)
  exact ⟨c1, hok, fun i a b => by rw [v1 i a b]; exact sync_homes h.home h.refis h.hlen i a b, RefIs.nil, RefIs.nil, by rw [rsync_length]; exact h.hlen, by simp, by simp, by simp, by simp, fun x hx => by simp at hx, fun x hx => by simp at hx, hlm⟩

theorem AP.mark (h : AP D H W W2 g m i) : AP D H W W g g (i + 1) :=
  ⟨h.clean, h.ok, h.home, h.refis, h.refis, h.hlen, by have := h.wlen; omega, by have := h.wlen; omega, h.win, h.win, h.gin, h.gin, h.lim⟩

theorem AP.back (h : AP D H W W2 g m i) : AP D H W2 W2 m m (i + 1) :=
  ⟨h.clean, h.ok, h.home, h.refis2, h.refis2, h.hlen, by have := h.wlen2; omega, by have := h.wlen2; omega, h.win2, h.win2, h.gin2, h.gin2, h.lim⟩

theorem AP.odead (h : AP D H W W2 g m i) : deadB (openD D) = false := Go.Proofs.YtibmillfankjfaaGreatDoor.live (by rw [open_lim]; exact h.lim)

theorem AP.opened (h : AP D H W W2 g m i) (hok : (openD D).Ok) : AP (openD D) H [] [] [] [] (i + 1) := by
  obtain ⟨c1, v1⟩ := open_clean h.ok h.clean.coh h.clean.cache (by rw [h.clean.len]; omega) h.odead
  rw [h.clean.len] at c1 v1
  exact ⟨c1, hok, fun i a b => by rw [v1 i a b, h.clean.rh]; exact h.home i a b, RefIs.nil, RefIs.nil, h.hlen, by simp, by simp, by simp, by simp, fun x hx => by simp at hx, fun x hx => by simp at hx, by rw [open_lim]; exact h.lim⟩

/-- The log reads what the reference does. -/
theorem AP.read (h : AP D H W W2 g m i) (j : Nat) (h1 : 48 ≤ j) (h2 : j < 128) : LogS.read ⟨D, g, m, []⟩ j = rread H W j := by
  unfold LogS.read rread
  simp only
  rw [← h.refis.look]
  cases e : glook W j with
  | some s => rfl
  | none =>
    have e2 : glook ([] : Grp) j = none := rfl
    rw [e2]
    simp only [Option.getD_none]
    rw [h.clean.coh.clean h.clean.cache]
    exact h.home j h1 h2

end

end Go.Proofs.YtibmillfankjfaaGreatDoor
