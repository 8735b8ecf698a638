/- Sorting in place, as far as a table's numbers ask for it: whatever the order, numbers that differ go on to differ. -/
import Derived.Test.YtdkigiemhkoijaaDoorFull5
import Derived.RegionTactic
namespace Go.Proofs.YtdkigiemhkoijaaDoor.Ino
open Go.RowKit Go.Maps Go.Proofs.YtdkigiemhkoijaaDoor
set_option maxRecDepth 100000

def InjL (L : List Nat) : Prop := ∀ i j, tg L i ≠ 0 → tg L i = tg L j → i = j

theorem InjL.swap {L : List Nat} (h : InjL L) {i j : Nat} (hi : i < L.length) (hj : j < L.length) : InjL ((L.set i (tg L j)).set j (tg L i)) := by
  have hs : ∀ k, tg ((L.set i (tg L j)).set j (tg L i)) k = tg L (if k = j then i else if k = i then j else k) := fun k => by
    rw [tg_set _ _ _ _ (by rw [List.length_set]; exact hj), tg_set _ _ _ _ hi]
    by_cases e : k = j
    · rw [if_pos e, if_pos e]
    · rw [if_neg e, if_neg e]
      by_cases e2 : k = i
      · rw [if_pos e2, if_pos e2]
      · rw [if_neg e2, if_neg e2]
  intro a b h0 h1
  rw [hs] at h0
  rw [hs, hs] at h1
  have := h _ _ h0 h1
  split at this <;> split at this <;> (try split at this) <;> (try split at this) <;> omega

/-- A table that is being sorted. -/
structure Srt (w0 : World) (g : Nat) (t : TypeId) (L : List Nat) (wr : World) : Prop where
  len : L.length = 203
  inj : InjL L
  heap : wr.heap[g]? = some (.cells (tabL L).toArray t (0, 0))
  keep : Keep (fun x => x = g) w0 wr

section
variable {w0 wr : World} {g : Nat} {t : TypeId} {L : List Nat}

theorem Srt.cell (h : Srt w0 g t L wr) {i : Nat} (hi : i < 203) : wr.cell? ⟨g, i, none⟩ = some (.int .u32 ((tg L i : Nat) : Int)) := tab_cell h.heap i (by rw [h.len]; exact hi)
theorem Srt.free (h : Srt w0 g t L wr) (i : Nat) : wr.frozen? ⟨g, i, none⟩ = false := frozen_of_row _ _ _ _ _ h.heap

theorem Srt.swap (h : Srt w0 g t L wr) {i j : Nat} (hi : i < 203) (hj : j < 203) : Srt w0 g t ((L.set i (tg L j)).set j (tg L i)) ((wr.setCell ⟨g, i, none⟩ (.int .u32 ((tg L j : Nat) : Int))).setCell ⟨g, j, none⟩ (.int .u32 ((tg L i : Nat) : Int))) := by
  refine ⟨by simp [h.len], h.inj.swap (by rw [h.len]; exact hi) (by rw [h.len]; exact hj), ?_, (h.keep.setCell _ _ (.inl rfl)).setCell _ _ (.inl rfl)⟩
  have h1 := heap_setCell_at (i := i) (.int .u32 ((tg L j : Nat) : Int)) h.heap
  have h2 := heap_setCell_at (i := j) (.int .u32 ((tg L i : Nat) : Int)) h1
  rw [← tabL_set, ← tabL_set]
  simpa using h2

theorem Srt.refl (h1 : L.length = 203) (h2 : InjL L) (h3 : wr.heap[g]? = some (.cells (tabL L).toArray t (0, 0))) : Srt wr g t L wr := ⟨h1, h2, h3, Keep.refl _ wr⟩
theorem Srt.from {wa : World} (h : Srt wa g t L wr) (k : Keep (fun x => x = g) w0 wa) : Srt w0 g t L wr := ⟨h.len, h.inj, h.heap, k.trans h.keep (fun _ h => .inl h)⟩
end

theorem Srt.drewN {w0 wr : World} {g : Nat} {t : TypeId} {L : List Nat} (h : Srt w0 g t L wr) (n : Nat) : Srt w0 g t L (wr.drewN n) :=
  ⟨h.len, h.inj, h.heap, h.keep.trans (F := fun x => x = g) (G := fun _ => False) ⟨rfl, rfl, rfl, Nat.le_refl _, fun _ _ _ => rfl⟩ (fun _ h => h.elim)⟩

theorem Srt.drew {w0 wr : World} {g : Nat} {t : TypeId} {L : List Nat} (h : Srt w0 g t L wr) : Srt w0 g t L wr.drew := ⟨h.len, h.inj, h.heap, h.keep.drew⟩

theorem nan_any {w : World} (x : Int) : Calls Tryd.prog 70 #[.int .u32 x] w fun e w' => e = .returned (.bool false) ∧ w = w' := by
  go_enter Tryd.func70, Tryd.ntmps70
  go_wp2
  go_ret
  exact ⟨by simp, rfl⟩

theorem less_any {w : World} (x y : Int) : Calls Tryd.prog 59 #[.int .u32 x, .int .u32 y] w fun e w' => e = .returned (.bool (decide (x < y))) ∧ w = w' := by
  go_enter Tryd.func59, Tryd.ntmps59
  go_wp2_with (go_at_call 70; refine (nan_any _).mono ?_; rintro e w' ⟨rfl, rfl⟩)
  all_goals go_ret
  all_goals exact ⟨by simp, rfl⟩

end Go.Proofs.YtdkigiemhkoijaaDoor.Ino
