/- The teller: a line is said; who is there. -/
import Derived.Test.YtheaghgockafmaaGreatWdT
namespace Go.Proofs.YtheaghgockafmaaGreat.Wd
open Go.RowKit Go.Proofs.YtheaghgockafmaaGreat Go.Proofs.YtheaghgockafmaaGreat.Lin
set_option maxRecDepth 100000

theorem Tryz.infoSay : (Tryz.prog.info? 202).map (fun i => (i.zero.map (·.cells.size), i.size, i.bytes)) = some (some 2, 2, 32) := by kernel_rfl
theorem info_cells {P : Program} {e : TypeId} {n s b : Nat} (h : (P.info? e).map (fun i => (i.zero.map (·.cells.size), i.size, i.bytes)) = some (some n, s, b)) : ∃ i z, P.info? e = some i ∧ i.zero = some z ∧ i.size = s ∧ i.bytes = b ∧ z.cells.size = n := by
  rcases hi : P.info? e with _ | i
  · rw [hi] at h; simp at h
  · rw [hi] at h
    simp only [Option.map_some, Option.some.injEq, Prod.mk.injEq] at h
    obtain ⟨h1, h2, h3⟩ := h
    rcases hz : i.zero with _ | z
    · rw [hz] at h1; simp at h1
    · rw [hz] at h1
      simp only [Option.map_some, Option.some.injEq] at h1
      exact ⟨i, z, rfl, hz, h2, h3, h1⟩

theorem TP.apart {M P N : Nat → Prop} {w : World} {p q d o : Nat} {D : DbM} {W : WM} {S : List SayM} {u : Int} {sv : Value} (h : TP M P N w p q d o D W S u sv) : sv.ownBlock ≠ some p := fun e => by
  obtain ⟨cs, f, hg⟩ := h.says.row.type e
  rw [h.blk] at hg
  simp only [Option.some.injEq, Obj.cells.injEq] at hg
  exact absurd hg.2.1 (by decide)

/-- A line more. -/
theorem TP.said {M P N : Nat → Prop} {w w2 : World} {p q d o : Nat} {D : DbM} {W : WM} {S : List SayM} {u : Int} {sv v7 : Value} {C : Obj} {to text : ByteArray} (h : TP M P N w p q d o D W S u sv)
    (hr : Row w2 202 2 v7 (S.length + 1) (flat sayC S ++ [.string to, .string text])) (hk : Keep (fun b => sv.ownBlock = some b) (w.alloc C) w2) (hb : ∀ b, v7.ownBlock = some b → sv.ownBlock = some b ∨ w.heap.size + 1 ≤ b ∧ b < w2.heap.size) :
    TE M P w (w2.setCell ⟨p, 2, none⟩ v7) p q d o D W (S ++ [⟨to, text⟩]) u := by
  have hps := lt_of_block h.blk
  have k2 : Keep (fun b => sv.ownBlock = some b) w w2 := ((Keep.refl _ w).alloc C).trans hk (fun b hb => .inl hb)
  have k3 : Keep (fun b => sv.ownBlock = some b ∨ b = p) w (w2.setCell ⟨p, 2, none⟩ v7) := Keep.setCell (k2.mono (fun b _ h => .inl h)) _ _ (.inl (.inr rfl))
  have hpv : v7.ownBlock ≠ some p := fun e => by
    rcases hb p e with h1 | h1
    · exact h.apart h1
    · omega
  have hp2 := (k2.block p hps h.apart).trans h.blk
  refine ⟨fun b => M b ∨ v7.ownBlock = some b, ⟨N, v7, ⟨(heap_setCell_at v7 hp2).trans rfl, ?_, h.wld.keep k3 ?_, h.db.keep k3 ?_, fun b hb => .inl (h.mn b hb), .inl h.mp, fun b hb => .inr hb, h.np, fun b hv hn => ?_, fun b hm => ?_, fun b hP hm => ?_, fun b hP => Nat.lt_of_lt_of_le (h.plt b hP) k3.size⟩⟩, ⟨k3.mono (fun b _ hf => ?_), fun b hm => ?_⟩⟩
  · have := Row.setCell hr ⟨p, 2, none⟩ v7 hpv
    unfold Rec
    rw [List.length_append, flat_append, flat_one]
    exact this
  · rintro b hn (hf | rfl)
    · exact h.ns b hf hn
    · exact h.np hn
  · rintro b hP (hf | rfl)
    · exact h.dis b hP (h.ms b hf)
    · exact h.dis b hP h.mp
  · rcases hb b hv with h1 | h1
    · exact h.ns b h1 hn
    · have := h.lt b (h.mn b hn); omega
  · have := k3.size
    rcases hm with hm | hm
    · exact Nat.lt_of_lt_of_le (h.lt b hm) this
    · have h2 := hr.lt hm
      have : (w2.setCell ⟨p, 2, none⟩ v7).heap.size = w2.heap.size := by simp
      omega
  · rcases hm with hm | hm
    · exact h.dis b hP hm
    · rcases hb b hm with h1 | h1
      · exact h.dis b hP (h.ms b h1)
      · have := h.plt b hP; omega
  · rcases hf with hf | rfl
    · exact h.ms b hf
    · exact h.mp
  · rcases hm with hm | hm
    · exact .inl hm
    · rcases hb b hm with h1 | h1
      · exact .inl (h.ms b h1)
      · exact .inr (by omega)

set_option maxHeartbeats 1000000 in
theorem say_any {M P : Nat → Prop} {w : World} {p q d o : Nat} {D : DbM} {W : WM} {S : List SayM} {u : Int} (h : TAt M P w p q d o D W S u) (hl : S.length ≤ 1000000) (to text : ByteArray) :
    Calls Tryz.prog 85 #[.pointer (some ⟨p, 0, none⟩), .string to, .string text] w fun e w' => e = .returned (.tuple #[]) ∧ TE M P w w' p q d o D W (S ++ [⟨to, text⟩]) u := by
  obtain ⟨i0, z0, hi0, hz0, hz1, hz2, hz3⟩ := info_cells Tryz.infoSay
  obtain ⟨N, sv, h⟩ := h
  have H := Lib.hid h
  have c2 : w.cell? ⟨p, 2, none⟩ = some sv := (cell_of_row w p 2 _ _ _ h.blk).trans rfl
  obtain ⟨va, vc, rfl, hvc1, hvc2⟩ := h.says.slice
  clear h
  go_enter Tryz.func85, Tryz.ntmps85
  go_wp2_with (at_builtin; go_loud (refine wpList_append_row (n := S.length) (m := 1) (size := 2) (bytes := 32) (xs := flat sayC S) (news := [.string to, .string text]) _ rfl (.tmp 10) (.tmp 14) rfl Tryz.underlying56 hi0 hz0 hz1 hz2 hz3 rfl (H.out.says.row.alloc _) rfl (Src.lit Tryz.underlying56 #[.string to, .string text] w.heap.size 1 1 rfl rfl (by simp [Value.oneCell'])) (by unfold maxLen; omega) (by omega) ?_))
  intro v7 w2 hr2 hk2 hb2 _
  obtain ⟨a7, c7, rfl, _, _⟩ := hr2.slice
  have HE := Lib.hid (H.out.said hr2 hk2 hb2)
  have k2 : Keep (fun b => (Value.slice va S.length vc).ownBlock = some b) w w2 := ((Keep.refl _ w).alloc _).trans hk2 (fun b hb => .inl hb)
  have hp2 := (k2.block p (lt_of_block H.out.blk) H.out.apart).trans H.out.blk
  have c3 : w2.cell? ⟨p, 2, none⟩ = some (.slice va S.length vc) := (cell_of_row w2 p 2 _ _ _ hp2).trans rfl
  have f3 := frozen_of_row w2 p 2 _ _ hp2
  clear hr2 hk2 hb2 k2 hp2
  go_wp2
  go_end0
  exact ⟨rfl, HE.out⟩

end Go.Proofs.YtheaghgockafmaaGreat.Wd
