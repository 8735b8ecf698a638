/- The teller: what it reads; who is on, kinds' names. -/
import Derived.Test.YtheaghgockafmaaGreatWdX
namespace Go.Proofs.YtheaghgockafmaaGreat.Wd
open Go.RowKit Go.Proofs.YtheaghgockafmaaGreat Go.Proofs.YtheaghgockafmaaGreat.Lin
set_option maxRecDepth 100000

section
variable {M P N : Nat → Prop} {w : World} {p q d o : Nat} {D : DbM} {W : WM} {S : List SayM} {u : Int}
theorem TAt.c0 (h : TAt M P w p q d o D W S u) : w.cell? ⟨p, 0, none⟩ = some (.pointer (some ⟨q, 0, none⟩)) := by
  obtain ⟨N, sv, h⟩ := h
  exact (cell_of_row w p 0 _ _ _ h.blk).trans rfl
theorem TAt.c1 (h : TAt M P w p q d o D W S u) : w.cell? ⟨p, 1, none⟩ = some (.pointer (some ⟨d, o, none⟩)) := by
  obtain ⟨N, sv, h⟩ := h
  exact (cell_of_row w p 1 _ _ _ h.blk).trans rfl
theorem TAt.wat (h : TAt M P w p q d o D W S u) : ∃ N, WAt N w q W ∧ ∀ b, N b → M b := by
  obtain ⟨N, sv, h⟩ := h
  exact ⟨N, h.wld, h.mn⟩
theorem TAt.db (h : TAt M P w p q d o D W S u) : DbAt P w d o D := by
  obtain ⟨N, sv, h⟩ := h
  exact h.db
theorem TAt.lt (h : TAt M P w p q d o D W S u) : ∀ b, M b → b < w.heap.size := by
  obtain ⟨N, sv, h⟩ := h
  exact h.lt
theorem TAt.dis (h : TAt M P w p q d o D W S u) : ∀ b, P b → ¬ M b := by
  obtain ⟨N, sv, h⟩ := h
  exact h.dis
theorem TAt.plt (h : TAt M P w p q d o D W S u) : ∀ b, P b → b < w.heap.size := by
  obtain ⟨N, sv, h⟩ := h
  exact h.plt
/-- A call that turns nothing. -/
theorem TAt.keep0 {w' : World} (h : TAt M P w p q d o D W S u) (k : Keep (fun _ => False) w w') : TAt M P w' p q d o D W S u := h.keep k (fun _ _ e => e) (fun _ _ e => e)
theorem TAt.drew (h : TAt M P w p q d o D W S u) : TAt M P w.drew p q d o D W S u := h.keep0 (Keep.refl _ w).drew

theorem WAt.chars (h : WAt N w q W) : ∃ a c cr, w.cell? ⟨q, 3, none⟩ = some (.slice a W.chars.length c) ∧ Rec w 65 chC 10 (.slice a W.chars.length c) cr ∧ cr.map Prod.fst = W.chars ∧ W.chars.length ≤ c ∧ c ≤ 9223372036854775807 := by
  obtain ⟨v1, v2, v3, v4, v5, v6, cr, hr, h⟩ := h
  obtain ⟨a, c, rfl, h1, h2⟩ := h.chars.slice
  have hl : cr.length = W.chars.length := by rw [← h.charm, List.length_map]
  rw [hl] at h1
  refine ⟨a, c, cr, by rw [← hl]; exact (cell_of_row w q 3 _ _ _ h.blk).trans rfl, by rw [← hl]; exact h.chars, h.charm, h1, by unfold maxLen at h2; omega⟩
theorem WAt.things (h : WAt N w q W) : ∃ a c, w.cell? ⟨q, 4, none⟩ = some (.slice a W.things.length c) ∧ Rec w 29 thC 5 (.slice a W.things.length c) W.things ∧ W.things.length ≤ c ∧ c ≤ 9223372036854775807 := by
  obtain ⟨v1, v2, v3, v4, v5, v6, cr, hr, h⟩ := h
  obtain ⟨a, c, rfl, h1, h2⟩ := h.things.slice
  exact ⟨a, c, (cell_of_row w q 4 _ _ _ h.blk).trans rfl, h.things, h1, by unfold maxLen at h2; omega⟩
theorem WAt.mobs (h : WAt N w q W) : ∃ a c, w.cell? ⟨q, 5, none⟩ = some (.slice a W.mobs.length c) ∧ Rec w 76 moC 4 (.slice a W.mobs.length c) W.mobs ∧ W.mobs.length ≤ c ∧ c ≤ 9223372036854775807 := by
  obtain ⟨v1, v2, v3, v4, v5, v6, cr, hr, h⟩ := h
  obtain ⟨a, c, rfl, h1, h2⟩ := h.mobs.slice
  exact ⟨a, c, (cell_of_row w q 5 _ _ _ h.blk).trans rfl, h.mobs, h1, by unfold maxLen at h2; omega⟩
theorem WAt.houses (h : WAt N w q W) : ∃ a c hr, w.cell? ⟨q, 6, none⟩ = some (.slice a W.houses.length c) ∧ Rec w 68 hoC 4 (.slice a W.houses.length c) hr ∧ hr.map Prod.fst = W.houses ∧ (∀ x ∈ hr, Txts w x.2 x.1.guests ∧ ∀ b, x.2.ownBlock = some b → N b) ∧ W.houses.length ≤ c ∧ c ≤ 9223372036854775807 := by
  obtain ⟨v1, v2, v3, v4, v5, v6, cr, hr, h⟩ := h
  obtain ⟨a, c, rfl, h1, h2⟩ := h.houses.slice
  have hl : hr.length = W.houses.length := by rw [← h.housem, List.length_map]
  rw [hl] at h1
  exact ⟨a, c, hr, by rw [← hl]; exact (cell_of_row w q 6 _ _ _ h.blk).trans rfl, by rw [← hl]; exact h.houses, h.housem, h.guests, h1, by unfold maxLen at h2; omega⟩
theorem WAt.lots (h : WAt N w q W) : ∃ a c, w.cell? ⟨q, 7, none⟩ = some (.slice a W.lots.length c) ∧ Rec w 79 loC 7 (.slice a W.lots.length c) W.lots ∧ W.lots.length ≤ c ∧ c ≤ 9223372036854775807 := by
  obtain ⟨v1, v2, v3, v4, v5, v6, cr, hr, h⟩ := h
  obtain ⟨a, c, rfl, h1, h2⟩ := h.lots.slice
  exact ⟨a, c, (cell_of_row w q 7 _ _ _ h.blk).trans rfl, h.lots, h1, by unfold maxLen at h2; omega⟩
theorem WAt.tills (h : WAt N w q W) : ∃ a c, w.cell? ⟨q, 8, none⟩ = some (.slice a W.tills.length c) ∧ Rec w 82 tiC 2 (.slice a W.tills.length c) W.tills ∧ W.tills.length ≤ c ∧ c ≤ 9223372036854775807 := by
  obtain ⟨v1, v2, v3, v4, v5, v6, cr, hr, h⟩ := h
  obtain ⟨a, c, rfl, h1, h2⟩ := h.tills.slice
  exact ⟨a, c, (cell_of_row w q 8 _ _ _ h.blk).trans rfl, h.tills, h1, by unfold maxLen at h2; omega⟩

/-- A character's cells. -/
theorem WAt.char (h : WAt N w q W) {k : Nat} {x : ChM} (hx : W.chars[k]? = some x) : ∃ g off c dv, w.cell? ⟨q, 3, none⟩ = some (.slice (some ⟨g, off, none⟩) W.chars.length c) ∧ k < W.chars.length ∧ W.chars.length ≤ c ∧ c ≤ 9223372036854775807 ∧ g < w.heap.size ∧ ∀ (j : Nat) (v : Value), (chC (x, dv))[j]? = some v → w.cell? ⟨g, off + (k * 10 + j), none⟩ = some v := by
  obtain ⟨a, c, cr, h1, h2, h3, h4, h5⟩ := h.chars
  have hk := (List.getElem?_eq_some_iff.1 hx).1
  rw [← h3, List.getElem?_map] at hx
  obtain ⟨⟨y, dv⟩, hy, rfl⟩ := Option.map_eq_some_iff.1 hx
  obtain ⟨g, off, rfl, hg⟩ := h2.some hy
  refine ⟨g, off, c, dv, h1, hk, h4, h5, hg, fun j v hv => ?_⟩
  rw [h2.cell chC_len k j _ hy (by rw [← chC_len (y, dv)]; exact (List.getElem?_eq_some_iff.1 hv).1)]
  exact hv
theorem WAt.thing (h : WAt N w q W) {k : Nat} {x : ThM} (hx : W.things[k]? = some x) : ∃ g off c, w.cell? ⟨q, 4, none⟩ = some (.slice (some ⟨g, off, none⟩) W.things.length c) ∧ k < W.things.length ∧ W.things.length ≤ c ∧ c ≤ 9223372036854775807 ∧ g < w.heap.size ∧ ∀ (j : Nat) (v : Value), (thC x)[j]? = some v → w.cell? ⟨g, off + (k * 5 + j), none⟩ = some v := by
  obtain ⟨a, c, h1, h2, h4, h5⟩ := h.things
  have hk := (List.getElem?_eq_some_iff.1 hx).1
  obtain ⟨g, off, rfl, hg⟩ := h2.some hx
  refine ⟨g, off, c, h1, hk, h4, h5, hg, fun j v hv => ?_⟩
  rw [h2.cell thC_len k j _ hx (by rw [← thC_len x]; exact (List.getElem?_eq_some_iff.1 hv).1)]
  exact hv
theorem WAt.mobile (h : WAt N w q W) {k : Nat} {x : MoM} (hx : W.mobs[k]? = some x) : ∃ g off c, w.cell? ⟨q, 5, none⟩ = some (.slice (some ⟨g, off, none⟩) W.mobs.length c) ∧ k < W.mobs.length ∧ W.mobs.length ≤ c ∧ c ≤ 9223372036854775807 ∧ g < w.heap.size ∧ ∀ (j : Nat) (v : Value), (moC x)[j]? = some v → w.cell? ⟨g, off + (k * 4 + j), none⟩ = some v := by
  obtain ⟨a, c, h1, h2, h4, h5⟩ := h.mobs
  have hk := (List.getElem?_eq_some_iff.1 hx).1
  obtain ⟨g, off, rfl, hg⟩ := h2.some hx
  refine ⟨g, off, c, h1, hk, h4, h5, hg, fun j v hv => ?_⟩
  rw [h2.cell moC_len k j _ hx (by rw [← moC_len x]; exact (List.getElem?_eq_some_iff.1 hv).1)]
  exact hv
end

/-- Who is on: a place; -1: nobody. -/
def onF (W : WM) (s : ByteArray) : Int :=
  match findI (fun x => decide (x.name = s)) W.chars with
  | .ofNat k => if (W.chars[k]?).any (·.on) then (k : Int) else -1
  | .negSucc _ => -1
theorem onF_none {W : WM} {s : ByteArray} (h : findI (fun x => decide (x.name = s)) W.chars = -1) : onF W s = -1 := by unfold onF; rw [h]; rfl
theorem onF_some {W : WM} {s : ByteArray} {k : Nat} {x : ChM} (h : findI (fun x => decide (x.name = s)) W.chars = (k : Int)) (hx : W.chars[k]? = some x) : onF W s = if x.on then (k : Int) else -1 := by
  unfold onF; rw [h]; show (if (W.chars[k]?).any (·.on) then (k : Int) else -1) = _; rw [hx]; rfl
/-- Nobody, or one who is on. -/
theorem onF_cases (W : WM) (s : ByteArray) : onF W s = -1 ∨ ∃ (k : Nat) (x : ChM), onF W s = (k : Int) ∧ W.chars[k]? = some x ∧ x.on = true ∧ x.name = s := by
  rcases findI_cases (fun x : ChM => decide (x.name = s)) W.chars with ⟨h1, _⟩ | ⟨k, x, h1, h2, h3, _⟩
  · exact .inl (onF_none h1)
  · rw [onF_some h1 h2]
    cases h : x.on
    · exact .inl (by simp)
    · exact .inr ⟨k, x, by simp, h2, h, by simpa using h3⟩

set_option maxHeartbeats 1000000 in
theorem on_any {M P : Nat → Prop} {w : World} {p q d o : Nat} {D : DbM} {W : WM} {S : List SayM} {u : Int} (h : TAt M P w p q d o D W S u) (hl : W.chars.length ≤ 1000000) (s : ByteArray) :
    Calls Tryz.prog 171 #[.pointer (some ⟨p, 0, none⟩), .string s] w fun e w' => e = .returned (.int .i64 (onF W s)) ∧ w = w' := by
  obtain ⟨N, hw, _⟩ := h.wat
  have c0 := h.c0
  have HC := Lib.hid (refChar_any hw hl s)
  rcases findI_cases (fun x : ChM => decide (x.name = s)) W.chars with ⟨h1, _⟩ | ⟨k, x, h1, h2, _, _⟩
  · have HE := Lib.hid (onF_none h1)
    rw [h1] at HC
    clear h hw h1
    go_enter Tryz.func171, Tryz.ntmps171
    go_wp2_with (go_at_call 82; (with_reducible refine HC.out.mono ?_); rintro e w' ⟨rfl, rfl⟩)
    go_ret
    exact ⟨by rw [HE.out]; rfl, rfl⟩
  · have HE := Lib.hid (onF_some h1 h2)
    rw [h1] at HC
    obtain ⟨g, off, c, dv, q3, hk, hc1, hc2, _, hcs⟩ := hw.char h2
    have qn : w.cell? ⟨g, off + k * 10 + 2, none⟩ = some (.bool x.on) := by rw [Nat.add_assoc]; exact hcs 2 _ rfl
    clear h hw h1 hcs h2
    cases hon : x.on
    all_goals
      rw [hon] at qn HE
      clear hon
      go_enter Tryz.func171, Tryz.ntmps171
      go_wp2_with (go_at_call 82; (with_reducible refine HC.out.mono ?_); rintro e w' ⟨rfl, rfl⟩)
      go_ret
      exact ⟨by rw [HE.out]; rfl, rfl⟩

end Go.Proofs.YtheaghgockafmaaGreat.Wd
