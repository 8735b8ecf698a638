/- Dice: what the program's cup does. -/
import Derived.Test.YtdblblnihdifiaaDiR
namespace Go.Proofs.Ytdblblnihdifiaa.Di
open Go.RowKit Go.Proofs.Ytdblblnihdifiaa
set_option maxRecDepth 100000

theorem infoI : (Try.prog.info? 3).map (fun i => (i.zero, i.size, i.bytes)) = some (some (.int .i64 0), 1, 8) := by kernel_rfl

/-- The program's cup at block p: the numbers xs are left. -/
structure CupAt (N : Nat → Prop) (w : World) (p : Nat) (xs : List Int) : Prop where
  ex : ∃ v, w.heap[p]? = some (.cells #[v] 34 (0, 0)) ∧ Nums N w v xs
  np : ¬ N p

theorem CupAt.lt {N : Nat → Prop} {w : World} {p : Nat} {xs : List Int} (h : CupAt N w p xs) : p < w.heap.size := by
  obtain ⟨v, h1, _⟩ := h.ex; exact lt_of_block h1
theorem CupAt.keep {N F : Nat → Prop} {w w' : World} {p : Nat} {xs : List Int} (h : CupAt N w p xs) (hk : Keep F w w') (hp : ¬ F p) (hF : ∀ b, N b → ¬ F b) : CupAt N w' p xs := by
  obtain ⟨v, h1, h2⟩ := h.ex
  exact ⟨⟨v, (hk.block p (lt_of_block h1) hp).trans h1, h2.keep hk hF⟩, h.np⟩

theorem left_any {N : Nat → Prop} {w : World} {p : Nat} {xs : List Int} (h : CupAt N w p xs) : Calls Try.prog 8 #[.pointer (some ⟨p, 0, none⟩)] w fun e w' => e = .returned (.int .i64 (xs.length : Int)) ∧ w = w' := by
  obtain ⟨_, h1, h2⟩ := h.ex
  obtain ⟨⟨_, a, cap, rfl, hc, hm, h4⟩, h3⟩ := h2
  have c0 : w.cell? ⟨p, 0, none⟩ = some (.slice a xs.length cap) := by rw [cell_of_row _ _ _ _ _ _ h1]; rfl
  clear h h1 h3 h4
  go_enter Try.func8, Try.ntmps8
  go_wp2
  go_ret
  exact ⟨rfl, rfl⟩

theorem left_nil {w : World} : Calls Try.prog 8 #[.pointer none] w fun e w' => e = .returned (.int .i64 0) ∧ w = w' := by
  go_enter Try.func8, Try.ntmps8
  go_wp2
  go_ret
  exact ⟨rfl, rfl⟩

theorem next_nil {w : World} : Calls Try.prog 11 #[.pointer none] w fun e w' => e = .returned (.int .i64 0) ∧ w = w' := by
  go_enter Try.func11, Try.ntmps11
  go_wp2_with (go_at_call 8; refine left_nil.mono ?_; rintro e w1 ⟨rfl, rfl⟩)
  go_ret
  exact ⟨rfl, rfl⟩

theorem next_none {N : Nat → Prop} {w : World} {p : Nat} (h : CupAt N w p []) : Calls Try.prog 11 #[.pointer (some ⟨p, 0, none⟩)] w fun e w' => e = .returned (.int .i64 0) ∧ w = w' := by
  have H := Lib.hid h
  clear h
  go_enter Try.func11, Try.ntmps11
  go_wp2_with (go_at_call 8; refine (left_any H.out).mono ?_; rintro e w1 ⟨rfl, rfl⟩)
  go_ret
  exact ⟨rfl, rfl⟩

theorem next_any {N : Nat → Prop} {w : World} {p : Nat} {n : Int} {xs : List Int} (h : CupAt N w p (n :: xs)) : Calls Try.prog 11 #[.pointer (some ⟨p, 0, none⟩)] w fun e w' => e = .returned (.int .i64 n) ∧ CupAt N w' p xs ∧ Keep (fun b => b = p) w w' := by
  have H := Lib.hid h
  obtain ⟨_, h1, h2⟩ := h.ex
  obtain ⟨⟨_, a, cap, rfl, hc, hm, h4⟩, h3⟩ := h2
  obtain ⟨g, off, rfl, hg, q⟩ := h4.resolve_left (by simp)
  have c0 : w.cell? ⟨p, 0, none⟩ = some (.slice (some ⟨g, off, none⟩) (xs.length + 1) cap) := by rw [cell_of_row _ _ _ _ _ _ h1]; rfl
  have c1 : w.cell? ⟨g, off, none⟩ = some (.int .i64 n) := q 0 _ (by simp [icells])
  have fr : w.frozen? ⟨p, 0, none⟩ = false := by simp [World.frozen?, h1]
  simp only [List.length_cons] at hc
  have H1 := Lib.hid h1; have Q := Lib.hid q
  have hgp : g ≠ p := fun e => h.np (e ▸ h3 g rfl (by simp))
  have hl : ¬ ((xs.length + 1 : Nat) : Int) = 0 := by omega
  have HNP := Lib.hid h.np
  have HN := Lib.hid (h3 g rfl (by simp))
  clear h h1 h3 h4 q
  go_enter Try.func11, Try.ntmps11
  go_wp2_with (go_at_call 8; refine (left_any H.out).mono ?_; rintro e w1 ⟨rfl, rfl⟩)
  · go_ret
    refine ⟨rfl, ⟨⟨_, (heap_setCell_at _ H1.out).trans rfl, ?_⟩, HNP.out⟩, Keep.setCell (Keep.refl _ _) _ _ (.inl rfl)⟩
    have h0 : xs.length = 0 := by omega
    exact ⟨⟨by simp [icells], _, _, rfl, by omega, by unfold maxLen at hm ⊢; omega, .inl h0⟩, fun b hb hp => by omega⟩
  · go_ret
    refine ⟨rfl, ⟨⟨_, (heap_setCell_at _ H1.out).trans rfl, ?_⟩, HNP.out⟩, Keep.setCell (Keep.refl _ _) _ _ (.inl rfl)⟩
    have k1 : Keep (fun b => b = p) w (w.setCell ⟨p, 0, none⟩ (.slice (some ⟨g, off + 1, none⟩) xs.length (cap - 1))) := Keep.setCell (Keep.refl _ _) _ _ (.inl rfl)
    refine ⟨⟨by simp [icells], _, _, rfl, by omega, by unfold maxLen at hm ⊢; omega, .inr ⟨g, off + 1, rfl, Nat.lt_of_lt_of_le hg k1.size, fun j u hu => ?_⟩⟩, fun b hb _ => ?_⟩
    · rw [k1.cell hg hgp, Nat.add_assoc, Nat.add_comm 1 j]
      exact Q.out (j + 1) u (by simpa [icells] using hu)
    · simp [Value.ownBlock] at hb; exact hb ▸ HN.out

end Go.Proofs.Ytdblblnihdifiaa.Di
