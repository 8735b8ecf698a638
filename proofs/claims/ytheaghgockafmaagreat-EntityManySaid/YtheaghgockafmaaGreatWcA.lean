/- Worlds: a list of a world is another, one of its own numbers is turned; append in a drawn region. -/
import Derived.Test.YtheaghgockafmaaGreatWdY
import Derived.Test.YtheaghgockafmaaGreatCdZ
import Derived.Deep.CutRange
import Derived.Deep.CutBlock
import Derived.Deep.RegionLaw
namespace Go.Proofs.YtheaghgockafmaaGreat.Wd
open Go.RowKit Go.Maps Go.Proofs.YtheaghgockafmaaGreat Go.Proofs.YtheaghgockafmaaGreat.Lin
set_option maxRecDepth 100000

theorem Ext.of_keep0 {M : Nat → Prop} {w w' : World} (k : Keep (fun _ => False) w w') : Ext M M w w' := ⟨k.mono (fun _ _ h => h.elim), fun _ h => .inl h⟩

theorem Row.typed {w : World} {t s n : Nat} {v : Value} {xs : List Value} (h : Row w t s v n xs) {b : Nat} (e : v.ownBlock = some b) : ∃ cs f, w.heap[b]? = some (.cells cs t f) := by
  rcases h.2 with ⟨rfl, _⟩ | ⟨g, off, cap, cur, lo, hi, rfl, hg, _⟩
  · simp [Value.ownBlock] at e
  · simp [Value.ownBlock] at e
    subst e
    exact ⟨_, _, hg⟩

theorem typed_ne {w : World} {b c t1 t2 : Nat} {cs1 cs2 : Array Value} {f1 f2 : Nat × Nat} (h1 : w.heap[b]? = some (.cells cs1 t1 f1)) (h2 : w.heap[c]? = some (.cells cs2 t2 f2)) (ht : t1 ≠ t2) : b ≠ c := by
  rintro rfl
  rw [h1] at h2
  simp only [Option.some.injEq, Obj.cells.injEq] at h2
  exact ht h2.2.1

/-- One of the world's own numbers is turned. -/
theorem WP.setOwn {N : Nat → Prop} {w : World} {q : Nat} {W : WM} {v1 v2 v3 v4 v5 v6 : Value} {cr : List (ChM × Value)} {hr : List (HoM × Value)} (h : WP N w q W v1 v2 v3 v4 v5 v6 cr hr) {j : Nat} {a b c : Int} {u : Value} (hj : j < 3) (hy : ([.int .i64 a, .int .i64 b, .int .i64 c] : List Value) = ([.int .i64 W.now, .int .i64 W.next, .int .i64 W.minted] : List Value).set j u) :
    WP N (w.setCell ⟨q, j, none⟩ u) q { W with now := a, next := b, minted := c } v1 v2 v3 v4 v5 v6 cr hr := by
  have k1 : Keep (fun b => b = q) w (w.setCell ⟨q, j, none⟩ u) := Keep.setCell (Keep.refl _ _) _ _ (.inl rfl)
  refine ⟨(heap_setCell_at _ h.blk).trans ?_, h.chars.keep k1 (fun b hb => ?_), h.charm, fun z hz => ⟨(h.dones z hz).1.keep k1 (fun b hb _ => ?_), (h.dones z hz).2⟩,
    h.things.keep k1 (fun b hb => ?_), h.mobs.keep k1 (fun b hb => ?_), h.houses.keep k1 (fun b hb => ?_), h.housem, fun z hz => ⟨(h.guests z hz).1.keep k1 (fun b hb _ => ?_), (h.guests z hz).2⟩,
    h.lots.keep k1 (fun b hb => ?_), h.tills.keep k1 (fun b hb => ?_), h.nq, h.nv⟩
  · have e : j = 0 ∨ j = 1 ∨ j = 2 := by omega
    rcases e with rfl | rfl | rfl
    all_goals
      simp only [List.set_cons_zero, List.set_cons_succ, List.cons.injEq, Value.int.injEq, true_and, and_true] at hy
      obtain ⟨h1, h2, h3⟩ := hy
      subst_vars
      rfl
  · obtain ⟨_, _, h2⟩ := Row.typed h.chars.row hb; exact typed_ne h2 h.blk (by decide)
  · obtain ⟨_, _, h2⟩ := (h.dones z hz).1.2 b hb; exact typed_ne h2 h.blk (by decide)
  · obtain ⟨_, _, h2⟩ := Row.typed h.things.row hb; exact typed_ne h2 h.blk (by decide)
  · obtain ⟨_, _, h2⟩ := Row.typed h.mobs.row hb; exact typed_ne h2 h.blk (by decide)
  · obtain ⟨_, _, h2⟩ := Row.typed h.houses.row hb; exact typed_ne h2 h.blk (by decide)
  · obtain ⟨_, _, h2⟩ := (h.guests z hz).1.2 b hb; exact typed_ne h2 h.blk (by decide)
  · obtain ⟨_, _, h2⟩ := Row.typed h.lots.row hb; exact typed_ne h2 h.blk (by decide)
  · obtain ⟨_, _, h2⟩ := Row.typed h.tills.row hb; exact typed_ne h2 h.blk (by decide)

/-- The world's things are others. -/
theorem WP.newThings {N : Nat → Prop} {w w2 : World} {q : Nat} {W : WM} {v1 v2 v3 v4 v5 v6 : Value} {cr : List (ChM × Value)} {hr : List (HoM × Value)} (h : WP N w q W v1 v2 v3 v4 v5 v6 cr hr) {v7 : Value} {L : List ThM}
    (hr7 : Row w2 29 5 v7 L.length (flat thC L)) (hk : Keep (fun b => v2.ownBlock = some b) w w2) (hb : ∀ b, v7.ownBlock = some b → v2.ownBlock = some b ∨ w.heap.size ≤ b ∧ b < w2.heap.size) :
    WP (fun b => N b ∨ v7.ownBlock = some b) (w2.setCell ⟨q, 4, none⟩ v7) q { W with things := L } v1 v7 v3 v4 v5 v6 cr hr ∧ Ext N (fun b => N b ∨ v7.ownBlock = some b) w (w2.setCell ⟨q, 4, none⟩ v7) ∧ (∀ b, v7.ownBlock = some b → b < (w2.setCell ⟨q, 4, none⟩ v7).heap.size) ∧ w2.frozen? ⟨q, 4, none⟩ = false := by
  have hqs := lt_of_block h.blk
  have hvq : ¬ v2.ownBlock = some q := fun e => by
    obtain ⟨_, _, h2⟩ := Row.typed h.things.row e
    exact typed_ne h2 h.blk (by decide) rfl
  have hq2 := (hk.block q hqs hvq).trans h.blk
  have h7q : ¬ v7.ownBlock = some q := fun e => by
    obtain ⟨_, _, h2⟩ := Row.typed hr7 e
    exact typed_ne h2 hq2 (by decide) rfl
  have k3 : Keep (fun b => v2.ownBlock = some b ∨ b = q) w (w2.setCell ⟨q, 4, none⟩ v7) := Keep.setCell (hk.mono (fun _ _ h => .inl h)) _ _ (.inl (.inr rfl))
  have HR7 : Rec (w2.setCell ⟨q, 4, none⟩ v7) 29 thC 5 v7 L := Row.setCell hr7 ⟨q, 4, none⟩ v7 h7q
  refine ⟨⟨(heap_setCell_at v7 hq2).trans rfl, h.chars.keep k3 (fun b hb => by
      obtain ⟨_, _, h2⟩ := Row.typed h.chars.row hb
      rintro (e | rfl)
      · obtain ⟨_, _, h3⟩ := Row.typed h.things.row e; exact typed_ne h2 h3 (by decide) rfl
      · exact typed_ne h2 h.blk (by decide) rfl), h.charm, fun z hz => ⟨(h.dones z hz).1.keep k3 (fun b hb _ => by
      obtain ⟨_, _, h2⟩ := (h.dones z hz).1.2 b hb
      rintro (e | rfl)
      · obtain ⟨_, _, h3⟩ := Row.typed h.things.row e; exact typed_ne h2 h3 (by decide) rfl
      · exact typed_ne h2 h.blk (by decide) rfl), fun b hb => .inl ((h.dones z hz).2 b hb)⟩,
    HR7, h.mobs.keep k3 (fun b hb => by
      obtain ⟨_, _, h2⟩ := Row.typed h.mobs.row hb
      rintro (e | rfl)
      · obtain ⟨_, _, h3⟩ := Row.typed h.things.row e; exact typed_ne h2 h3 (by decide) rfl
      · exact typed_ne h2 h.blk (by decide) rfl), h.houses.keep k3 (fun b hb => by
      obtain ⟨_, _, h2⟩ := Row.typed h.houses.row hb
      rintro (e | rfl)
      · obtain ⟨_, _, h3⟩ := Row.typed h.things.row e; exact typed_ne h2 h3 (by decide) rfl
      · exact typed_ne h2 h.blk (by decide) rfl), h.housem, fun z hz => ⟨(h.guests z hz).1.keep k3 (fun b hb _ => by
      obtain ⟨_, _, h2⟩ := (h.guests z hz).1.2 b hb
      rintro (e | rfl)
      · obtain ⟨_, _, h3⟩ := Row.typed h.things.row e; exact typed_ne h2 h3 (by decide) rfl
      · exact typed_ne h2 h.blk (by decide) rfl), fun b hb => .inl ((h.guests z hz).2 b hb)⟩,
    h.lots.keep k3 (fun b hb => by
      obtain ⟨_, _, h2⟩ := Row.typed h.lots.row hb
      rintro (e | rfl)
      · obtain ⟨_, _, h3⟩ := Row.typed h.things.row e; exact typed_ne h2 h3 (by decide) rfl
      · exact typed_ne h2 h.blk (by decide) rfl), h.tills.keep k3 (fun b hb => by
      obtain ⟨_, _, h2⟩ := Row.typed h.tills.row hb
      rintro (e | rfl)
      · obtain ⟨_, _, h3⟩ := Row.typed h.things.row e; exact typed_ne h2 h3 (by decide) rfl
      · exact typed_ne h2 h.blk (by decide) rfl), .inl h.nq, fun v9 hv b hb9 => ?_⟩, ⟨k3.mono (fun b _ e => ?_), fun b hb9 => ?_⟩, fun b hb9 => ?_, by simp [World.frozen?, hq2]⟩
  · simp only [List.mem_cons, List.not_mem_nil, or_false] at hv
    rcases hv with rfl | rfl | rfl | rfl | rfl | rfl
    · exact .inl (h.nv _ (by simp) b hb9)
    · exact .inr hb9
    · exact .inl (h.nv _ (by simp) b hb9)
    · exact .inl (h.nv _ (by simp) b hb9)
    · exact .inl (h.nv _ (by simp) b hb9)
    · exact .inl (h.nv _ (by simp) b hb9)
  · rcases e with e | rfl
    · exact h.nv v2 (by simp) b e
    · exact h.nq
  · rcases hb9 with h1 | h1
    · exact .inl h1
    · rcases hb b h1 with h2 | h2
      · exact .inl (h.nv v2 (by simp) b h2)
      · exact .inr h2.1
  · have h2 := hr7.lt hb9
    simpa using h2

/-- The world's mobs are others. -/
theorem WP.newMobs {N : Nat → Prop} {w w2 : World} {q : Nat} {W : WM} {v1 v2 v3 v4 v5 v6 : Value} {cr : List (ChM × Value)} {hr : List (HoM × Value)} (h : WP N w q W v1 v2 v3 v4 v5 v6 cr hr) {v7 : Value} {L : List MoM}
    (hr7 : Row w2 76 4 v7 L.length (flat moC L)) (hk : Keep (fun b => v3.ownBlock = some b) w w2) (hb : ∀ b, v7.ownBlock = some b → v3.ownBlock = some b ∨ w.heap.size ≤ b ∧ b < w2.heap.size) :
    WP (fun b => N b ∨ v7.ownBlock = some b) (w2.setCell ⟨q, 5, none⟩ v7) q { W with mobs := L } v1 v2 v7 v4 v5 v6 cr hr ∧ Ext N (fun b => N b ∨ v7.ownBlock = some b) w (w2.setCell ⟨q, 5, none⟩ v7) ∧ (∀ b, v7.ownBlock = some b → b < (w2.setCell ⟨q, 5, none⟩ v7).heap.size) ∧ w2.frozen? ⟨q, 5, none⟩ = false := by
  have hqs := lt_of_block h.blk
  have hvq : ¬ v3.ownBlock = some q := fun e => by
    obtain ⟨_, _, h2⟩ := Row.typed h.mobs.row e
    exact typed_ne h2 h.blk (by decide) rfl
  have hq2 := (hk.block q hqs hvq).trans h.blk
  have h7q : ¬ v7.ownBlock = some q := fun e => by
    obtain ⟨_, _, h2⟩ := Row.typed hr7 e
    exact typed_ne h2 hq2 (by decide) rfl
  have k3 : Keep (fun b => v3.ownBlock = some b ∨ b = q) w (w2.setCell ⟨q, 5, none⟩ v7) := Keep.setCell (hk.mono (fun _ _ h => .inl h)) _ _ (.inl (.inr rfl))
  have HR7 : Rec (w2.setCell ⟨q, 5, none⟩ v7) 76 moC 4 v7 L := Row.setCell hr7 ⟨q, 5, none⟩ v7 h7q
  refine ⟨⟨(heap_setCell_at v7 hq2).trans rfl, h.chars.keep k3 (fun b hb => by
      obtain ⟨_, _, h2⟩ := Row.typed h.chars.row hb
      rintro (e | rfl)
      · obtain ⟨_, _, h3⟩ := Row.typed h.mobs.row e; exact typed_ne h2 h3 (by decide) rfl
      · exact typed_ne h2 h.blk (by decide) rfl), h.charm, fun z hz => ⟨(h.dones z hz).1.keep k3 (fun b hb _ => by
      obtain ⟨_, _, h2⟩ := (h.dones z hz).1.2 b hb
      rintro (e | rfl)
      · obtain ⟨_, _, h3⟩ := Row.typed h.mobs.row e; exact typed_ne h2 h3 (by decide) rfl
      · exact typed_ne h2 h.blk (by decide) rfl), fun b hb => .inl ((h.dones z hz).2 b hb)⟩,
    h.things.keep k3 (fun b hb => by
      obtain ⟨_, _, h2⟩ := Row.typed h.things.row hb
      rintro (e | rfl)
      · obtain ⟨_, _, h3⟩ := Row.typed h.mobs.row e; exact typed_ne h2 h3 (by decide) rfl
      · exact typed_ne h2 h.blk (by decide) rfl), HR7, h.houses.keep k3 (fun b hb => by
      obtain ⟨_, _, h2⟩ := Row.typed h.houses.row hb
      rintro (e | rfl)
      · obtain ⟨_, _, h3⟩ := Row.typed h.mobs.row e; exact typed_ne h2 h3 (by decide) rfl
      · exact typed_ne h2 h.blk (by decide) rfl), h.housem, fun z hz => ⟨(h.guests z hz).1.keep k3 (fun b hb _ => by
      obtain ⟨_, _, h2⟩ := (h.guests z hz).1.2 b hb
      rintro (e | rfl)
      · obtain ⟨_, _, h3⟩ := Row.typed h.mobs.row e; exact typed_ne h2 h3 (by decide) rfl
      · exact typed_ne h2 h.blk (by decide) rfl), fun b hb => .inl ((h.guests z hz).2 b hb)⟩,
    h.lots.keep k3 (fun b hb => by
      obtain ⟨_, _, h2⟩ := Row.typed h.lots.row hb
      rintro (e | rfl)
      · obtain ⟨_, _, h3⟩ := Row.typed h.mobs.row e; exact typed_ne h2 h3 (by decide) rfl
      · exact typed_ne h2 h.blk (by decide) rfl), h.tills.keep k3 (fun b hb => by
      obtain ⟨_, _, h2⟩ := Row.typed h.tills.row hb
      rintro (e | rfl)
      · obtain ⟨_, _, h3⟩ := Row.typed h.mobs.row e; exact typed_ne h2 h3 (by decide) rfl
      · exact typed_ne h2 h.blk (by decide) rfl), .inl h.nq, fun v9 hv b hb9 => ?_⟩, ⟨k3.mono (fun b _ e => ?_), fun b hb9 => ?_⟩, fun b hb9 => ?_, by simp [World.frozen?, hq2]⟩
  · simp only [List.mem_cons, List.not_mem_nil, or_false] at hv
    rcases hv with rfl | rfl | rfl | rfl | rfl | rfl
    · exact .inl (h.nv _ (by simp) b hb9)
    · exact .inl (h.nv _ (by simp) b hb9)
    · exact .inr hb9
    · exact .inl (h.nv _ (by simp) b hb9)
    · exact .inl (h.nv _ (by simp) b hb9)
    · exact .inl (h.nv _ (by simp) b hb9)
  · rcases e with e | rfl
    · exact h.nv v3 (by simp) b e
    · exact h.nq
  · rcases hb9 with h1 | h1
    · exact .inl h1
    · rcases hb b h1 with h2 | h2
      · exact .inl (h.nv v3 (by simp) b h2)
      · exact .inr h2.1
  · have h2 := hr7.lt hb9
    simpa using h2

/-- The world's lots are others. -/
theorem WP.newLots {N : Nat → Prop} {w w2 : World} {q : Nat} {W : WM} {v1 v2 v3 v4 v5 v6 : Value} {cr : List (ChM × Value)} {hr : List (HoM × Value)} (h : WP N w q W v1 v2 v3 v4 v5 v6 cr hr) {v7 : Value} {L : List LoM}
    (hr7 : Row w2 79 7 v7 L.length (flat loC L)) (hk : Keep (fun b => v5.ownBlock = some b) w w2) (hb : ∀ b, v7.ownBlock = some b → v5.ownBlock = some b ∨ w.heap.size ≤ b ∧ b < w2.heap.size) :
    WP (fun b => N b ∨ v7.ownBlock = some b) (w2.setCell ⟨q, 7, none⟩ v7) q { W with lots := L } v1 v2 v3 v4 v7 v6 cr hr ∧ Ext N (fun b => N b ∨ v7.ownBlock = some b) w (w2.setCell ⟨q, 7, none⟩ v7) ∧ (∀ b, v7.ownBlock = some b → b < (w2.setCell ⟨q, 7, none⟩ v7).heap.size) ∧ w2.frozen? ⟨q, 7, none⟩ = false := by
  have hqs := lt_of_block h.blk
  have hvq : ¬ v5.ownBlock = some q := fun e => by
    obtain ⟨_, _, h2⟩ := Row.typed h.lots.row e
    exact typed_ne h2 h.blk (by decide) rfl
  have hq2 := (hk.block q hqs hvq).trans h.blk
  have h7q : ¬ v7.ownBlock = some q := fun e => by
    obtain ⟨_, _, h2⟩ := Row.typed hr7 e
    exact typed_ne h2 hq2 (by decide) rfl
  have k3 : Keep (fun b => v5.ownBlock = some b ∨ b = q) w (w2.setCell ⟨q, 7, none⟩ v7) := Keep.setCell (hk.mono (fun _ _ h => .inl h)) _ _ (.inl (.inr rfl))
  have HR7 : Rec (w2.setCell ⟨q, 7, none⟩ v7) 79 loC 7 v7 L := Row.setCell hr7 ⟨q, 7, none⟩ v7 h7q
  refine ⟨⟨(heap_setCell_at v7 hq2).trans rfl, h.chars.keep k3 (fun b hb => by
      obtain ⟨_, _, h2⟩ := Row.typed h.chars.row hb
      rintro (e | rfl)
      · obtain ⟨_, _, h3⟩ := Row.typed h.lots.row e; exact typed_ne h2 h3 (by decide) rfl
      · exact typed_ne h2 h.blk (by decide) rfl), h.charm, fun z hz => ⟨(h.dones z hz).1.keep k3 (fun b hb _ => by
      obtain ⟨_, _, h2⟩ := (h.dones z hz).1.2 b hb
      rintro (e | rfl)
      · obtain ⟨_, _, h3⟩ := Row.typed h.lots.row e; exact typed_ne h2 h3 (by decide) rfl
      · exact typed_ne h2 h.blk (by decide) rfl), fun b hb => .inl ((h.dones z hz).2 b hb)⟩,
    h.things.keep k3 (fun b hb => by
      obtain ⟨_, _, h2⟩ := Row.typed h.things.row hb
      rintro (e | rfl)
      · obtain ⟨_, _, h3⟩ := Row.typed h.lots.row e; exact typed_ne h2 h3 (by decide) rfl
      · exact typed_ne h2 h.blk (by decide) rfl), h.mobs.keep k3 (fun b hb => by
      obtain ⟨_, _, h2⟩ := Row.typed h.mobs.row hb
      rintro (e | rfl)
      · obtain ⟨_, _, h3⟩ := Row.typed h.lots.row e; exact typed_ne h2 h3 (by decide) rfl
      · exact typed_ne h2 h.blk (by decide) rfl), h.houses.keep k3 (fun b hb => by
      obtain ⟨_, _, h2⟩ := Row.typed h.houses.row hb
      rintro (e | rfl)
      · obtain ⟨_, _, h3⟩ := Row.typed h.lots.row e; exact typed_ne h2 h3 (by decide) rfl
      · exact typed_ne h2 h.blk (by decide) rfl), h.housem, fun z hz => ⟨(h.guests z hz).1.keep k3 (fun b hb _ => by
      obtain ⟨_, _, h2⟩ := (h.guests z hz).1.2 b hb
      rintro (e | rfl)
      · obtain ⟨_, _, h3⟩ := Row.typed h.lots.row e; exact typed_ne h2 h3 (by decide) rfl
      · exact typed_ne h2 h.blk (by decide) rfl), fun b hb => .inl ((h.guests z hz).2 b hb)⟩,
    HR7, h.tills.keep k3 (fun b hb => by
      obtain ⟨_, _, h2⟩ := Row.typed h.tills.row hb
      rintro (e | rfl)
      · obtain ⟨_, _, h3⟩ := Row.typed h.lots.row e; exact typed_ne h2 h3 (by decide) rfl
      · exact typed_ne h2 h.blk (by decide) rfl), .inl h.nq, fun v9 hv b hb9 => ?_⟩, ⟨k3.mono (fun b _ e => ?_), fun b hb9 => ?_⟩, fun b hb9 => ?_, by simp [World.frozen?, hq2]⟩
  · simp only [List.mem_cons, List.not_mem_nil, or_false] at hv
    rcases hv with rfl | rfl | rfl | rfl | rfl | rfl
    · exact .inl (h.nv _ (by simp) b hb9)
    · exact .inl (h.nv _ (by simp) b hb9)
    · exact .inl (h.nv _ (by simp) b hb9)
    · exact .inl (h.nv _ (by simp) b hb9)
    · exact .inr hb9
    · exact .inl (h.nv _ (by simp) b hb9)
  · rcases e with e | rfl
    · exact h.nv v5 (by simp) b e
    · exact h.nq
  · rcases hb9 with h1 | h1
    · exact .inl h1
    · rcases hb b h1 with h2 | h2
      · exact .inl (h.nv v5 (by simp) b h2)
      · exact .inr h2.1
  · have h2 := hr7.lt hb9
    simpa using h2

theorem oper_append_row {P : Program} {w : World} {o : Oper} {a : Act} {K : Act → World → Prop} {Q : Exit → Act → World → Prop} (s x : Operand) {t tx : TypeId}
    (ho : o.op = .call { callee := .builtin .append, args := #[s, x], argTypes := #[t, tx] })
    {e : TypeId} {i : TypeInfo} {z : Value} {size bytes : Nat} (ht : P.underlying t = some (.slice e)) (hi : P.info? e = some i) (hz : i.zero = some z)
    (hsize : i.size = size) (hby : i.bytes = bytes) (hzs : z.cells.size = size)
    {v : Value} {n : Nat} {xs : List Value} (hv : a.eval s = v) (h : Row w e size v n xs) {vx : Value} (hx : a.eval x = vx) {m : Nat} {news : List Value} (hs : Src P size tx vx m news w)
    (h63 : n + m ≤ maxLen) (hbytes : (n + m) * bytes ≤ 140737488355328)
    (hK : ∀ v' w', Row w' e size v' (n + m) (xs ++ news) → Keep (fun b => v.ownBlock = some b) w w' → (∀ b, v'.ownBlock = some b → v.ownBlock = some b ∨ (w.heap.size ≤ b ∧ b < w'.heap.size)) →
      (v' = .slice none 0 0 ↔ v = .slice none 0 0 ∧ m = 0) → K (a.put o.dst v') w') : Oper.wp P o a w K Q := by
  obtain ⟨v', w', hr, h2, h3, h4, h5⟩ := run_append_row (P := P) w o.type ht hi hz hsize hby hzs h hs h63 hbytes
  unfold Oper.wp execOp
  simp only [ho, resolve, invoke, builtin, Sem.run_bind, Sem.run_pure, Result.andThen_ok, List.map_toArray, List.map_cons, List.map_nil, hv, hx, hr]
  exact hK v' w' h2 h3 h4 h5

def madeW (W : WM) (proto place room : Int) (who : ByteArray) : WM := { W with things := W.things ++ [⟨W.next, proto, place, room, who⟩], next := wrap64 (W.next + 1) }

/-- What a function of worlds leaves. -/
structure WE (N : Nat → Prop) (w w' : World) (q : Nat) (W : WM) : Prop where
  ex : ∃ N', WAt N' w' q W ∧ Ext N N' w w' ∧ ∀ b, N' b → N b ∨ b < w'.heap.size
end Go.Proofs.YtheaghgockafmaaGreat.Wd
