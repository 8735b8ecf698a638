/- Worlds that are new: the program's New (made by tools/geneb.py). -/
import Derived.Test.YtheaghgockafmaaGreatEbA
import Derived.Test.YtheaghgockafmaaGreatWcA
import Derived.Test.YtheaghgockafmaaGreatDcI
import Derived.Deep.CutRange
import Derived.Deep.CutBlock
namespace Go.Proofs.YtheaghgockafmaaGreat.Wd
open Go.RowKit Go.Maps Go.Proofs.YtheaghgockafmaaGreat Go.Proofs.YtheaghgockafmaaGreat.Lin
set_option maxRecDepth 100000

def mobsL (L : List MobPM) : List MoM := L.mapIdx (fun i m => ⟨(i : Int) + 1, m.id, m.home, m.hp⟩)
def tillsL (L : List ShopM) : List TiM := L.map (fun s => ⟨s.room, s.till⟩)
def sumT (L : List ShopM) : Int := (L.map (fun s => s.till)).sum
/-- The world as it is at first. -/
def newF (D : DbM) : WM := ⟨0, (D.mobs.length : Int) + 1, sumT D.shops, [], [], mobsL D.mobs, [], [], tillsL D.shops⟩
def newM (D : DbM) (i : Nat) : WM := ⟨0, (i : Int) + 1, 0, [], [], mobsL (D.mobs.take i), [], [], []⟩
def newT (D : DbM) (i : Nat) : WM := ⟨0, (D.mobs.length : Int) + 1, 0, [], [], mobsL D.mobs, [], [], tillsL (D.shops.take i)⟩
theorem mobsL_len (L : List MobPM) : (mobsL L).length = L.length := by simp [mobsL]
theorem tillsL_len (L : List ShopM) : (tillsL L).length = L.length := by simp [tillsL]
theorem mobsL_take {L : List MobPM} {i : Nat} {m : MobPM} (h : L[i]? = some m) : mobsL (L.take (i + 1)) = mobsL (L.take i) ++ [⟨(i : Int) + 1, m.id, m.home, m.hp⟩] := by
  have hi := (List.getElem?_eq_some_iff.1 h).1
  unfold mobsL
  rw [List.take_add_one, h]
  simp only [Option.toList, List.mapIdx_concat]
  rw [List.length_take, Nat.min_eq_left (by omega)]
theorem tillsL_take {L : List ShopM} {i : Nat} {m : ShopM} (h : L[i]? = some m) : tillsL (L.take (i + 1)) = tillsL (L.take i) ++ [⟨m.room, m.till⟩] := by
  unfold tillsL
  rw [List.take_add_one, h]
  simp

/-- A world in memory, in blocks that w0 has not. -/
structure NwR (w0 : World) (q : Nat) (W : WM) (wr : World) : Prop where
  ex : ∃ (N : Nat → Prop) (v1 v2 v3 v4 v5 v6 : Value) (cr : List (ChM × Value)) (hr : List (HoM × Value)), WP N wr q W v1 v2 v3 v4 v5 v6 cr hr ∧ Keep (fun _ => False) w0 wr ∧ ∀ b, N b → w0.heap.size ≤ b ∧ b < wr.heap.size
theorem NwR.step {w0 w w' : World} {q : Nat} {W : WM} {N : Nat → Prop} {v1 v2 v3 v4 v5 v6 v7 : Value} {cr : List (ChM × Value)} {hr : List (HoM × Value)} (k0 : Keep (fun _ => False) w0 w) (hN : ∀ b, N b → w0.heap.size ≤ b ∧ b < w.heap.size)
    (hw : WP (fun b => N b ∨ v7.ownBlock = some b) w' q W v1 v2 v3 v4 v5 v6 cr hr) (e : Ext N (fun b => N b ∨ v7.ownBlock = some b) w w') (h3 : ∀ b, v7.ownBlock = some b → b < w'.heap.size) : NwR w0 q W w' :=
  ⟨⟨_, _, _, _, _, _, _, _, _, hw, k0.trans e.keep (fun b hb => .inr (hN b hb).1), fun b hb => by
    rcases hb with h | h
    · exact ⟨(hN b h).1, Nat.lt_of_lt_of_le (hN b h).2 e.keep.size⟩
    · refine ⟨?_, h3 b h⟩
      rcases e.new b (.inr h) with h4 | h4
      · exact (hN b h4).1
      · exact Nat.le_trans k0.size h4⟩⟩
theorem NwR.keep0 {w0 w w' : World} {q : Nat} {W : WM} (h : NwR w0 q W w) (k : Keep (fun _ => False) w w') : NwR w0 q W w' := by
  obtain ⟨N, v1, v2, v3, v4, v5, v6, cr, hr, h1, h2, h3⟩ := h.ex
  exact ⟨⟨N, v1, v2, v3, v4, v5, v6, cr, hr, h1.keep k (fun _ _ e => e), h2.trans k (fun _ e => e.elim), fun b hb => ⟨(h3 b hb).1, Nat.lt_of_lt_of_le (h3 b hb).2 k.size⟩⟩⟩
theorem NwR.wat {w0 w : World} {q : Nat} {W : WM} (h : NwR w0 q W w) : ∃ N, WAt N w q W := by
  obtain ⟨N, v1, v2, v3, v4, v5, v6, cr, hr, h1, _, _⟩ := h.ex
  exact ⟨N, v1, v2, v3, v4, v5, v6, cr, hr, h1⟩
theorem NwR.k {w0 w : World} {q : Nat} {W : WM} (h : NwR w0 q W w) : Keep (fun _ => False) w0 w := by
  obtain ⟨N, v1, v2, v3, v4, v5, v6, cr, hr, _, h2, _⟩ := h.ex
  exact h2
theorem NwR.lt {w0 w : World} {q : Nat} {W : WM} (h : NwR w0 q W w) : q < w.heap.size := by
  obtain ⟨N, v1, v2, v3, v4, v5, v6, cr, hr, h1, _, _⟩ := h.ex
  exact lt_of_block h1.blk
theorem NwR.own {w0 w : World} {q : Nat} {W : WM} (h : NwR w0 q W w) : w.cell? ⟨q, 0, none⟩ = some (.int .i64 W.now) ∧ w.cell? ⟨q, 1, none⟩ = some (.int .i64 W.next) ∧ w.cell? ⟨q, 2, none⟩ = some (.int .i64 W.minted) := by
  obtain ⟨N, v1, v2, v3, v4, v5, v6, cr, hr, hw, _, _⟩ := h.ex
  exact ⟨(cell_of_row w q 0 _ _ _ hw.blk).trans rfl, (cell_of_row w q 1 _ _ _ hw.blk).trans rfl, (cell_of_row w q 2 _ _ _ hw.blk).trans rfl⟩
theorem NwR.setOwn {w0 w : World} {q : Nat} {W : WM} (h : NwR w0 q W w) {j : Nat} {a b c : Int} {v : Value} (hj : j < 3) (hy : ([.int .i64 a, .int .i64 b, .int .i64 c] : List Value) = ([.int .i64 W.now, .int .i64 W.next, .int .i64 W.minted] : List Value).set j v) :
    NwR w0 q { W with now := a, next := b, minted := c } (w.setCell ⟨q, j, none⟩ v) ∧ w.frozen? ⟨q, j, none⟩ = false := by
  obtain ⟨N, v1, v2, v3, v4, v5, v6, cr, hr, hw, h2, h3⟩ := h.ex
  refine ⟨⟨⟨N, v1, v2, v3, v4, v5, v6, cr, hr, hw.setOwn hj hy, Keep.setCell h2 _ _ (.inr (h3 q hw.nq).1), fun b hb => ⟨(h3 b hb).1, by simpa using (h3 b hb).2⟩⟩⟩, by simp [World.frozen?, hw.blk]⟩
theorem NwR.nils (w : World) (n : Int) : NwR w w.heap.size ⟨0, n, 0, [], [], [], [], [], []⟩ (w.alloc (.cells #[.int .i64 0, .int .i64 n, .int .i64 0, .slice none 0 0, .slice none 0 0, .slice none 0 0, .slice none 0 0, .slice none 0 0, .slice none 0 0] 52)) :=
  ⟨⟨fun b => b = w.heap.size, .slice none 0 0, .slice none 0 0, .slice none 0 0, .slice none 0 0, .slice none 0 0, .slice none 0 0, [], [],
    ⟨heap_alloc_new w _, Row.nil _ _ _, rfl, fun _ h => by simp at h, Row.nil _ _ _, Row.nil _ _ _, Row.nil _ _ _, rfl, fun _ h => by simp at h, Row.nil _ _ _, Row.nil _ _ _, rfl, fun v hv b hb => by
      simp only [List.mem_cons, List.not_mem_nil, or_false] at hv
      rcases hv with rfl | rfl | rfl | rfl | rfl | rfl <;> cases hb⟩,
    (Keep.refl _ w).alloc _, fun b hb => by subst hb; exact ⟨Nat.le_refl _, by simp⟩⟩⟩

/-- The world's tills are others. -/
theorem WP.newTills {N : Nat → Prop} {w w2 : World} {q : Nat} {W : WM} {v1 v2 v3 v4 v5 v6 : Value} {cr : List (ChM × Value)} {hr : List (HoM × Value)} (h : WP N w q W v1 v2 v3 v4 v5 v6 cr hr) {v7 : Value} {L : List TiM}
    (hr7 : Row w2 82 2 v7 L.length (flat tiC L)) (hk : Keep (fun b => v6.ownBlock = some b) w w2) (hb : ∀ b, v7.ownBlock = some b → v6.ownBlock = some b ∨ w.heap.size ≤ b ∧ b < w2.heap.size) :
    WP (fun b => N b ∨ v7.ownBlock = some b) (w2.setCell ⟨q, 8, none⟩ v7) q { W with tills := L } v1 v2 v3 v4 v5 v7 cr hr ∧ Ext N (fun b => N b ∨ v7.ownBlock = some b) w (w2.setCell ⟨q, 8, none⟩ v7) ∧ (∀ b, v7.ownBlock = some b → b < (w2.setCell ⟨q, 8, none⟩ v7).heap.size) ∧ w2.frozen? ⟨q, 8, none⟩ = false := by
  have hqs := lt_of_block h.blk
  have hvq : ¬ v6.ownBlock = some q := fun e => by
    obtain ⟨_, _, h2⟩ := Row.typed h.tills.row e
    exact typed_ne h2 h.blk (by decide) rfl
  have hq2 := (hk.block q hqs hvq).trans h.blk
  have h7q : ¬ v7.ownBlock = some q := fun e => by
    obtain ⟨_, _, h2⟩ := Row.typed hr7 e
    exact typed_ne h2 hq2 (by decide) rfl
  have k3 : Keep (fun b => v6.ownBlock = some b ∨ b = q) w (w2.setCell ⟨q, 8, none⟩ v7) := Keep.setCell (hk.mono (fun _ _ h => .inl h)) _ _ (.inl (.inr rfl))
  have HR7 : Rec (w2.setCell ⟨q, 8, none⟩ v7) 82 tiC 2 v7 L := Row.setCell hr7 ⟨q, 8, none⟩ v7 h7q
  refine ⟨⟨(heap_setCell_at v7 hq2).trans rfl, h.chars.keep k3 (fun b hb => by
      obtain ⟨_, _, h2⟩ := Row.typed h.chars.row hb
      rintro (e | rfl)
      · obtain ⟨_, _, h3⟩ := Row.typed h.tills.row e; exact typed_ne h2 h3 (by decide) rfl
      · exact typed_ne h2 h.blk (by decide) rfl), h.charm, fun z hz => ⟨(h.dones z hz).1.keep k3 (fun b hb _ => by
      obtain ⟨_, _, h2⟩ := (h.dones z hz).1.2 b hb
      rintro (e | rfl)
      · obtain ⟨_, _, h3⟩ := Row.typed h.tills.row e; exact typed_ne h2 h3 (by decide) rfl
      · exact typed_ne h2 h.blk (by decide) rfl), fun b hb => .inl ((h.dones z hz).2 b hb)⟩,
    h.things.keep k3 (fun b hb => by
      obtain ⟨_, _, h2⟩ := Row.typed h.things.row hb
      rintro (e | rfl)
      · obtain ⟨_, _, h3⟩ := Row.typed h.tills.row e; exact typed_ne h2 h3 (by decide) rfl
      · exact typed_ne h2 h.blk (by decide) rfl), h.mobs.keep k3 (fun b hb => by
      obtain ⟨_, _, h2⟩ := Row.typed h.mobs.row hb
      rintro (e | rfl)
      · obtain ⟨_, _, h3⟩ := Row.typed h.tills.row e; exact typed_ne h2 h3 (by decide) rfl
      · exact typed_ne h2 h.blk (by decide) rfl), h.houses.keep k3 (fun b hb => by
      obtain ⟨_, _, h2⟩ := Row.typed h.houses.row hb
      rintro (e | rfl)
      · obtain ⟨_, _, h3⟩ := Row.typed h.tills.row e; exact typed_ne h2 h3 (by decide) rfl
      · exact typed_ne h2 h.blk (by decide) rfl), h.housem, fun z hz => ⟨(h.guests z hz).1.keep k3 (fun b hb _ => by
      obtain ⟨_, _, h2⟩ := (h.guests z hz).1.2 b hb
      rintro (e | rfl)
      · obtain ⟨_, _, h3⟩ := Row.typed h.tills.row e; exact typed_ne h2 h3 (by decide) rfl
      · exact typed_ne h2 h.blk (by decide) rfl), fun b hb => .inl ((h.guests z hz).2 b hb)⟩,
    h.lots.keep k3 (fun b hb => by
      obtain ⟨_, _, h2⟩ := Row.typed h.lots.row hb
      rintro (e | rfl)
      · obtain ⟨_, _, h3⟩ := Row.typed h.tills.row e; exact typed_ne h2 h3 (by decide) rfl
      · exact typed_ne h2 h.blk (by decide) rfl), HR7, .inl h.nq, fun v9 hv b hb9 => ?_⟩, ⟨k3.mono (fun b _ e => ?_), fun b hb9 => ?_⟩, fun b hb9 => ?_, by simp [World.frozen?, hq2]⟩
  · simp only [List.mem_cons, List.not_mem_nil, or_false] at hv
    rcases hv with rfl | rfl | rfl | rfl | rfl | rfl
    · exact .inl (h.nv _ (by simp) b hb9)
    · exact .inl (h.nv _ (by simp) b hb9)
    · exact .inl (h.nv _ (by simp) b hb9)
    · exact .inl (h.nv _ (by simp) b hb9)
    · exact .inl (h.nv _ (by simp) b hb9)
    · exact .inr hb9
  · rcases e with e | rfl
    · exact h.nv v6 (by simp) b e
    · exact h.nq
  · rcases hb9 with h1 | h1
    · exact .inl h1
    · rcases hb b h1 with h2 | h2
      · exact .inl (h.nv v6 (by simp) b h2)
      · exact .inr h2.1
  · have h2 := hr7.lt hb9
    simpa using h2

structure NewMR (D : DbM) (w0 : World) (q : Nat) (iv : Value) (wr : World) : Prop where
  ex : ∃ i : Nat, i ≤ D.mobs.length ∧ iv = .int .i64 (i : Int) ∧ NwR w0 q (newM D i) wr
structure NewTR (D : DbM) (w0 : World) (q : Nat) (iv : Value) (wr : World) : Prop where
  ex : ∃ i : Nat, i ≤ D.shops.length ∧ iv = .int .i64 (i : Int) ∧ NwR w0 q (newT D i) wr
theorem DbAt.mobsN {P : Nat → Prop} {w : World} {d o : Nat} {D : DbM} (h : DbAt P w d o D) : ∃ a c, w.cell? ⟨d, o + 2, none⟩ = some (.slice a D.mobs.length c) ∧ D.mobs.length ≤ c ∧ c ≤ 9223372036854775807 := by
  obtain ⟨v1, v2, v3, v4, v5, v6, rr, ss, hd, hr, _, _, h1, _⟩ := h.ex
  obtain ⟨a, c, rfl, h2, h3⟩ := h1.slice
  exact ⟨a, c, hr 2 _ rfl, h2, by unfold maxLen at h3; omega⟩
theorem Tryz.infoMobN : (Tryz.prog.info? 76).map (fun i => (i.zero.map (·.cells.size), i.size, i.bytes)) = some (some 4, 4, 32) := by kernel_rfl
theorem Tryz.infoTilN : (Tryz.prog.info? 82).map (fun i => (i.zero.map (·.cells.size), i.size, i.bytes)) = some (some 2, 2, 16) := by kernel_rfl

set_option maxHeartbeats 16000000 in
theorem entNew_any {P : Nat → Prop} {w : World} {d : Nat} {D : DbM} (h : DbAt P w d 0 D) (hz : SzD D) (hc : checkF D = 0) (hm : D.mobs.length ≤ 60) (hs : D.shops.length ≤ 60)
    (hT : ∀ (w1 : World) (q : Nat) (hN : NwR w q (newT D D.shops.length) w1), Calls Tryz.prog 56 #[.pointer (some ⟨q, 0, none⟩)] w1 fun e w' => e = .returned (.int .i64 (sumT D.shops)) ∧ Keep (fun _ => False) w1 w') :
    Calls Tryz.prog 22 #[.pointer (some ⟨d, 0, none⟩)] w fun e w' => ∃ q, e = .returned (.pointer (some ⟨q, 0, none⟩)) ∧ NwR w q (newF D) w' := by
  have HC : Hid (Calls Tryz.prog 55 #[.pointer (some ⟨d, 0, none⟩)] w fun e w' => e = .returned .nilIface ∧ Keep (fun _ => False) w w') := Lib.hid ((check_any h hz).mono fun e w' hh => ⟨by rw [hh.1, hc]; rfl, hh.2⟩)
  obtain ⟨dv1, dv2, dv3, dv4, dv5, dv6, rr, ss, hd, hr, _, _, hr3, _, _, ⟨hr6, hs6, hi6⟩, _⟩ := h.ex
  obtain ⟨am, cm, rfl, hm1, hm2⟩ := hr3.slice
  obtain ⟨asx, csx, rfl, hs1, hs2⟩ := hr6.slice
  have hsl : ss.length = D.shops.length := by rw [← hs6, List.length_map]
  rw [hsl] at hr6 hs1 hr
  unfold maxLen at hm2 hs2
  have HR3 : Hid (∀ w1, Keep (fun _ => False) w w1 → Rec w1 105 mobpC 7 (.slice am D.mobs.length cm) D.mobs) := Lib.hid (fun w1 k => hr3.keep k (fun _ _ e => e))
  have HR6 : Hid (∀ w1, Keep (fun _ => False) w w1 → Rec w1 107 shopC 3 (.slice asx D.shops.length csx) ss) := Lib.hid (fun w1 k => hr6.keep k (fun _ _ e => e))
  have HQ : Hid (∀ w1, Keep (fun _ => False) w w1 → w1.cell? ⟨d, 2, none⟩ = some (.slice am D.mobs.length cm) ∧ w1.cell? ⟨d, 5, none⟩ = some (.slice asx D.shops.length csx)) := Lib.hid (fun w1 k => ⟨(k.cell hd (fun e => e) _).trans (by simpa using hr 2 _ rfl), (k.cell hd (fun e => e) _).trans (by simpa using hr 5 _ rfl)⟩)
  have HI6 : Hid (∀ x ∈ ss, ∃ a c, x.2 = .slice a x.1.items.length c) := Lib.hid (fun x hx => by
    obtain ⟨_, a, c, e, _⟩ := (hi6 x hx).1
    exact ⟨a, c, e⟩)
  have HS6 := Lib.hid hs6
  have HT := Lib.hid hT
  obtain ⟨i0, z0, hi0, hz0, hz1, hz2, hz3⟩ := info_cells Tryz.infoMobN
  clear h hz hc hT hr hr3 hr6 hi6 hs6
  go_enter Tryz.func22, Tryz.ntmps22
  go_wp2_with (go_at_call 55; (with_reducible refine HC.out.mono ?_); rintro e w9 ⟨rfl, k9⟩; have K9 := Lib.hid k9; obtain ⟨q2, -⟩ := HQ.out _ (k9.alloc (.cells #[.int .i64 0, .int .i64 1, .int .i64 0, .slice none 0 0, .slice none 0 0, .slice none 0 0, .slice none 0 0, .slice none 0 0, .slice none 0 0] 52)); clear k9)
  have TT : Hid (NwR w w9.heap.size (newM D 0) (w9.alloc (.cells #[.int .i64 0, .int .i64 1, .int .i64 0, .slice none 0 0, .slice none 0 0, .slice none 0 0, .slice none 0 0, .slice none 0 0, .slice none 0 0] 52))) := Lib.hid (by
    obtain ⟨N, v1, v2, v3, v4, v5, v6, cr, hr, h1, h2, h3⟩ := (NwR.nils w9 1).ex
    exact ⟨⟨N, v1, v2, v3, v4, v5, v6, cr, hr, by simpa [newM, mobsL] using h1, K9.out.trans h2 (fun _ e => e.elim), fun b hb => ⟨Nat.le_trans K9.out.size (h3 b hb).1, (h3 b hb).2⟩⟩⟩)
  clear q2
  generalize (w9.alloc (.cells #[.int .i64 0, .int .i64 1, .int .i64 0, .slice none 0 0, .slice none 0 0, .slice none 0 0, .slice none 0 0, .slice none 0 0, .slice none 0 0] 52)) = wa at *
  generalize w9.heap.size = q at *
  go_loopw [18] (fun iv wr => NewMR D w q iv wr) (fun iv _ => D.mobs.length - (intOf iv).toNat)
  case atStart => exact ⟨0, by omega, rfl, TT.out⟩
  case round =>
    obtain ⟨i, hi, rfl, hn⟩ := hrel.ex
    have T1 := Lib.hid hn
    clear hrel hn TT K9
    by_cases hlt : i < D.mobs.length
    · have hd1 : decide (i < D.mobs.length) = true := by simpa using hlt
      obtain ⟨m, hm⟩ : ∃ m, D.mobs[i]? = some m := ⟨_, List.getElem?_eq_getElem hlt⟩
      have HMK := Lib.hid (mobsL_take hm)
      obtain ⟨gm, om, rfl, hgm⟩ := (HR3.out wr T1.out.k).some hm
      have HMP := Lib.hid ((HR3.out wr T1.out.k).range mobpC_len i m hm)
      have g0 : wr.cell? ⟨gm, om + i * 7, none⟩ = some (.int .i64 m.id) := by simpa using HMP.out 0 _ rfl
      have g1 : wr.cell? ⟨gm, om + i * 7 + 1, none⟩ = some (.string m.name) := by simpa using HMP.out 1 _ rfl
      have g2 : wr.cell? ⟨gm, om + i * 7 + 2, none⟩ = some (.int .i64 m.home) := by simpa using HMP.out 2 _ rfl
      have g3 : wr.cell? ⟨gm, om + i * 7 + 3, none⟩ = some (.int .i64 m.hp) := by simpa using HMP.out 3 _ rfl
      have g4 : wr.cell? ⟨gm, om + i * 7 + 4, none⟩ = some (.int .i64 m.power) := by simpa using HMP.out 4 _ rfl
      have g5 : wr.cell? ⟨gm, om + i * 7 + 5, none⟩ = some (.int .i64 m.xp) := by simpa using HMP.out 5 _ rfl
      have g6 : wr.cell? ⟨gm, om + i * 7 + 6, none⟩ = some (.int .i64 m.gold) := by simpa using HMP.out 6 _ rfl
      clear hm HMP
      go_upto_region 7 with (fail)
      obtain ⟨X0, hX0⟩ : ∃ X0, X0 = wr.alloc (.cells #[.int .i64 m.id, .string m.name, .int .i64 m.home, .int .i64 m.hp, .int .i64 m.power, .int .i64 m.xp, .int .i64 m.gold] 105) := ⟨_, rfl⟩
      have HB0 : Hid (X0.heap[wr.heap.size]? = some (.cells #[.int .i64 m.id, .string m.name, .int .i64 m.home, .int .i64 m.hp, .int .i64 m.power, .int .i64 m.xp, .int .i64 m.gold] 105 (0, 0))) := Lib.hid (by rw [hX0]; exact heap_alloc_new wr _)
      have KX : Hid (Keep (fun _ => False) wr X0) := Lib.hid (by rw [hX0]; exact (Keep.refl _ wr).alloc _)
      rw [← hX0]
      clear hX0 g0 g1 g2 g3 g4 g5 g6
      generalize hbs : wr.heap.size = bs at *
      have HBS := Lib.hid hbs
      clear hbs
      obtain ⟨W1, hW1⟩ : ∃ W1, W1 = newM D i := ⟨_, rfl⟩
      rw [← hW1] at T1
      obtain ⟨n1, hn1⟩ : ∃ n1 : Int, n1 = (i : Int) + 1 := ⟨_, rfl⟩
      have HN1 : Hid (W1.next = n1) := Lib.hid (by rw [hn1, hW1]; rfl)
      have hm60 : W1.mobs.length ≤ 60 := by rw [hW1]; show (mobsL (D.mobs.take i)).length ≤ 60; rw [mobsL_len, List.length_take]; omega
      have HW1 := Lib.hid hW1
      have HNI := Lib.hid hn1
      clear hW1 hn1
      have b0 : X0.drew.cell? ⟨bs, 0, none⟩ = some (.int .i64 m.id) := (cell_of_row X0 bs 0 _ _ _ HB0.out).trans rfl
      have b2 : X0.drew.cell? ⟨bs, 2, none⟩ = some (.int .i64 m.home) := (cell_of_row X0 bs 2 _ _ _ HB0.out).trans rfl
      have b3 : X0.drew.cell? ⟨bs, 3, none⟩ = some (.int .i64 m.hp) := (cell_of_row X0 bs 3 _ _ _ HB0.out).trans rfl
      obtain ⟨N9, v1, v2, v3, v4, v5, v6, cr, hr, hw0, hk0, hN0⟩ := T1.out.ex
      have hw := (hw0.keep KX.out (fun _ _ e => e)).keep (Keep.refl (fun _ => False) X0).drew (fun _ _ e => e)
      obtain ⟨a5, d5, rfl, h51, h52⟩ := hw.mobs.slice
      have q5 : X0.drew.cell? ⟨q, 5, none⟩ = some (.slice a5 W1.mobs.length d5) := (cell_of_row X0.drew q 5 _ _ _ hw.blk).trans rfl
      have q1 : X0.drew.cell? ⟨q, 1, none⟩ = some (.int .i64 n1) := (cell_of_row X0.drew q 1 _ _ _ hw.blk).trans (by rw [HN1.out]; rfl)
      have HNB : Hid (¬ N9 bs) := Lib.hid (fun e => by have := (hN0 bs e).2; have := HBS.out; omega)
      have HD := Lib.hid hw
      have HN0 := Lib.hid hN0
      have HK0 : Hid (Keep (fun _ => False) w X0.drew) := Lib.hid (hk0.trans KX.out (fun _ e => e.elim)).drew
      have HS11 : Hid ((fun w9 : World => w9.cell? ⟨q, 5, none⟩ = some (.slice a5 W1.mobs.length d5) ∧ w9.cell? ⟨q, 1, none⟩ = some (.int .i64 n1) ∧ w9.cell? ⟨bs, 0, none⟩ = some (.int .i64 m.id) ∧ w9.cell? ⟨bs, 2, none⟩ = some (.int .i64 m.home) ∧ w9.cell? ⟨bs, 3, none⟩ = some (.int .i64 m.hp)) X0.drew) := Lib.hid ⟨q5, q1, b0, b2, b3⟩
      have HG11 : Hid (∀ w9 : World, Keep (fun _ => False) X0.drew w9 → (fun w9 : World => w9.cell? ⟨q, 5, none⟩ = some (.slice a5 W1.mobs.length d5) ∧ w9.cell? ⟨q, 1, none⟩ = some (.int .i64 n1) ∧ w9.cell? ⟨bs, 0, none⟩ = some (.int .i64 m.id) ∧ w9.cell? ⟨bs, 2, none⟩ = some (.int .i64 m.home) ∧ w9.cell? ⟨bs, 3, none⟩ = some (.int .i64 m.hp)) w9) := Lib.hid (fun w9 k9 => by
        have hS9 := HS11.out
        obtain ⟨z0, z1, z2, z3, z4⟩ := hS9
        exact ⟨(k9.cell (World.block_lt_of_cell? _ _ z0) (fun h => h) _).trans z0, (k9.cell (World.block_lt_of_cell? _ _ z1) (fun h => h) _).trans z1, (k9.cell (World.block_lt_of_cell? _ _ z2) (fun h => h) _).trans z2, (k9.cell (World.block_lt_of_cell? _ _ z3) (fun h => h) _).trans z3, (k9.cell (World.block_lt_of_cell? _ _ z4) (fun h => h) _).trans z4⟩)
      clear hw hw0 hk0 hN0 q5 q1 b0 b2 b3
      refine Cd.wp_region_z (fun w9 : World => w9.cell? ⟨q, 5, none⟩ = some (.slice a5 W1.mobs.length d5) ∧ w9.cell? ⟨q, 1, none⟩ = some (.int .i64 n1) ∧ w9.cell? ⟨bs, 0, none⟩ = some (.int .i64 m.id) ∧ w9.cell? ⟨bs, 2, none⟩ = some (.int .i64 m.home) ∧ w9.cell? ⟨bs, 3, none⟩ = some (.int .i64 m.hp)) [20] (by kernel_rfl) ?_
      have HSZ : Hid (wr.heap.size ≤ X0.drew.heap.size) := Lib.hid KX.out.size
      generalize X0.drew = wd at *
      refine Cd.wpAnyZ_takeD (i := 0) (d := 22) (v := ?_) rfl rfl (by kernel_rfl) (by kernel_rfl) (by kernel_rfl) (fun _ _ _ h => h) (by rfl) ?_ ?_
      rotate_left 1
      · (intro w9; go_simp <;> with_reducible rfl)
      simp only [Act.put, List.setIfInBounds_toArray, List.set_cons_succ, List.set_cons_zero]
      refine Cd.wpAnyZ_takeD (i := 1) (d := 23) (v := ?_) rfl rfl (by kernel_rfl) (by kernel_rfl) (by kernel_rfl) (fun _ _ _ h => h) (by rfl) ?_ ?_
      rotate_left 1
      · (intro w9; go_simp <;> with_reducible rfl)
      simp only [Act.put, List.setIfInBounds_toArray, List.set_cons_succ, List.set_cons_zero]
      refine Cd.wpAnyZ_takeD (i := 2) (d := 24) (v := ?_) rfl rfl (by kernel_rfl) (by kernel_rfl) (by kernel_rfl) (fun _ _ _ h => h) (by rfl) ?_ ?_
      rotate_left 1
      · (intro w9; go_simp <;> with_reducible rfl)
      simp only [Act.put, List.setIfInBounds_toArray, List.set_cons_succ, List.set_cons_zero]
      refine Cd.wpAnyZ_takeD (i := 3) (d := 25) (v := ?_) rfl rfl (by kernel_rfl) (by kernel_rfl) (by kernel_rfl) (fun _ _ _ h => h) (by rfl) ?_ ?_
      rotate_left 1
      · (intro w9; go_simp <;> with_reducible rfl)
      simp only [Act.put, List.setIfInBounds_toArray, List.set_cons_succ, List.set_cons_zero]
      refine Cd.wpAnyZ_loadD (i := 4) (d := 26) (v := ?_) rfl rfl (by kernel_rfl) (by kernel_rfl) (by kernel_rfl) (by kernel_rfl) (fun _ _ _ h => h) HS11.out (by rfl) ?_ ?_
      rotate_left 1
      · (intro w9 hS9; obtain ⟨z0, z1, z2, z3, z4⟩ := hS9; go_simp <;> with_reducible rfl)
      simp only [Act.put, List.setIfInBounds_toArray, List.set_cons_succ, List.set_cons_zero]
      refine Cd.wpAnyZ_takeD (i := 5) (d := 27) (v := ?_) rfl rfl (by kernel_rfl) (by kernel_rfl) (by kernel_rfl) (fun _ _ _ h => h) (by rfl) ?_ ?_
      rotate_left 1
      · (intro w9; go_simp <;> with_reducible rfl)
      simp only [Act.put, List.setIfInBounds_toArray, List.set_cons_succ, List.set_cons_zero]
      refine Cd.wpAnyZ_takeD (i := 6) (d := 28) (v := ?_) rfl rfl (by kernel_rfl) (by kernel_rfl) (by kernel_rfl) (fun _ _ _ h => h) (by rfl) ?_ ?_
      rotate_left 1
      · (intro w9; go_simp <;> with_reducible rfl)
      simp only [Act.put, List.setIfInBounds_toArray, List.set_cons_succ, List.set_cons_zero]
      refine Cd.wpAnyZ_takeD (i := 7) (d := 29) (v := ?_) rfl rfl (by kernel_rfl) (by kernel_rfl) (by kernel_rfl) (fun _ _ _ h => h) (by rfl) ?_ ?_
      rotate_left 1
      · (intro w9; go_simp <;> with_reducible rfl)
      simp only [Act.put, List.setIfInBounds_toArray, List.set_cons_succ, List.set_cons_zero]
      refine Cd.wpAnyZ_loadD (i := 8) (d := 30) (v := ?_) rfl rfl (by kernel_rfl) (by kernel_rfl) (by kernel_rfl) (by kernel_rfl) (fun _ _ _ h => h) HS11.out (by rfl) ?_ ?_
      rotate_left 1
      · (intro w9 hS9; obtain ⟨z0, z1, z2, z3, z4⟩ := hS9; go_simp <;> with_reducible rfl)
      simp only [Act.put, List.setIfInBounds_toArray, List.set_cons_succ, List.set_cons_zero]
      refine Cd.wpAnyZ_takeD (i := 9) (d := 31) (v := ?_) rfl rfl (by kernel_rfl) (by kernel_rfl) (by kernel_rfl) (fun _ _ _ h => h) (by rfl) ?_ ?_
      rotate_left 1
      · (intro w9; go_simp <;> with_reducible rfl)
      simp only [Act.put, List.setIfInBounds_toArray, List.set_cons_succ, List.set_cons_zero]
      refine Cd.wpAnyZ_loadD (i := 10) (d := 32) (v := ?_) rfl rfl (by kernel_rfl) (by kernel_rfl) (by kernel_rfl) (by kernel_rfl) (fun _ _ _ h => h) HS11.out (by rfl) ?_ ?_
      rotate_left 1
      · (intro w9 hS9; obtain ⟨z0, z1, z2, z3, z4⟩ := hS9; go_simp <;> with_reducible rfl)
      simp only [Act.put, List.setIfInBounds_toArray, List.set_cons_succ, List.set_cons_zero]
      refine Cd.wpAnyZ_takeD (i := 11) (d := 33) (v := ?_) rfl rfl (by kernel_rfl) (by kernel_rfl) (by kernel_rfl) (fun _ _ _ h => h) (by rfl) ?_ ?_
      rotate_left 1
      · (intro w9; go_simp <;> with_reducible rfl)
      simp only [Act.put, List.setIfInBounds_toArray, List.set_cons_succ, List.set_cons_zero]
      refine Cd.wpAnyZ_loadD (i := 12) (d := 34) (v := ?_) rfl rfl (by kernel_rfl) (by kernel_rfl) (by kernel_rfl) (by kernel_rfl) (fun _ _ _ h => h) HS11.out (by rfl) ?_ ?_
      rotate_left 1
      · (intro w9 hS9; obtain ⟨z0, z1, z2, z3, z4⟩ := hS9; go_simp <;> with_reducible rfl)
      simp only [Act.put, List.setIfInBounds_toArray, List.set_cons_succ, List.set_cons_zero]
      refine Cd.wpAnyZ_takeD (i := 13) (d := 35) (v := ?_) rfl rfl (by kernel_rfl) (by kernel_rfl) (by kernel_rfl) (fun _ _ _ h => h) (by rfl) ?_ ?_
      rotate_left 1
      · (intro w9; go_simp <;> with_reducible rfl)
      simp only [Act.put, List.setIfInBounds_toArray, List.set_cons_succ, List.set_cons_zero]
      refine Cd.wpAnyZ_loadD (i := 14) (d := 36) (v := ?_) rfl rfl (by kernel_rfl) (by kernel_rfl) (by kernel_rfl) (by kernel_rfl) (fun _ _ _ h => h) HS11.out (by rfl) ?_ ?_
      rotate_left 1
      · (intro w9 hS9; obtain ⟨z0, z1, z2, z3, z4⟩ := hS9; go_simp <;> with_reducible rfl)
      simp only [Act.put, List.setIfInBounds_toArray, List.set_cons_succ, List.set_cons_zero]
      refine Cd.wpAnyZ_takeD (i := 15) (d := 37) (v := ?_) rfl rfl (by kernel_rfl) (by kernel_rfl) (by kernel_rfl) (fun _ _ _ h => h) (by rfl) ?_ ?_
      rotate_left 1
      · (intro w9; go_simp <;> with_reducible rfl)
      simp only [Act.put, List.setIfInBounds_toArray, List.set_cons_succ, List.set_cons_zero]
      refine Cd.wpAnyZ_one (i := 16) rfl (by kernel_rfl) (by rfl) ?_
      intro K9 hK9
      go_simp
      have ha9 : Keep (fun _ => False) wd (wd.alloc (.cells #[.int .i64 n1, .int .i64 m.id, .int .i64 m.home, .int .i64 m.hp] 76)) := (Keep.refl _ wd).alloc _
      have HSA : Hid ((fun w9 : World => w9.cell? ⟨q, 5, none⟩ = some (.slice a5 W1.mobs.length d5) ∧ w9.cell? ⟨q, 1, none⟩ = some (.int .i64 n1) ∧ w9.cell? ⟨bs, 0, none⟩ = some (.int .i64 m.id) ∧ w9.cell? ⟨bs, 2, none⟩ = some (.int .i64 m.home) ∧ w9.cell? ⟨bs, 3, none⟩ = some (.int .i64 m.hp)) (wd.alloc (.cells #[.int .i64 n1, .int .i64 m.id, .int .i64 m.home, .int .i64 m.hp] 76))) := Lib.hid (HG11.out _ ha9)
      have HX := Lib.hid (HD.out.keep ha9 (fun _ _ e => e))
      have HRX : Hid (Row (wd.alloc (.cells #[.int .i64 n1, .int .i64 m.id, .int .i64 m.home, .int .i64 m.hp] 76)) 76 4 (.slice (some ⟨wd.heap.size, 0, none⟩) 1 1) 1 (moC ⟨n1, m.id, m.home, m.hp⟩)) := Lib.hid (Row.made (w := wd) (moC ⟨n1, m.id, m.home, m.hp⟩).toArray wd.heap.size 1 rfl (by simp [maxLen]) (by simp [moC]))
      have HA9 := Lib.hid ha9
      clear ha9
      refine hK9.out _ _ (fun _ _ => HSA.out) ?_
      clear hK9 K9
      refine Cd.wpAnyZ_one (i := 17) rfl (by kernel_rfl) (by rfl) ?_
      intro K9 hK9
      --raw
      refine oper_append_row (.tmp 26) (.tmp 38) rfl Tryz.underlying47 hi0 hz0 hz1 hz2 hz3 rfl HX.out.mobs.row rfl (HRX.out.src Tryz.underlying47 (by simp [moC, Value.oneCell'])) (by unfold maxLen; omega) (by omega) ?_
      intro v9 w9 r1 r2 r3 _
      obtain ⟨a9, c9, rfl, _, _⟩ := r1.slice
      have nw := HX.out.newMobs (L := W1.mobs ++ [⟨n1, m.id, m.home, m.hp⟩]) (by rw [List.length_append, flat_append, flat_one]; exact r1) r2 r3
      have hvN : ∀ b, (Value.slice a5 W1.mobs.length d5).ownBlock = some b → N9 b := fun b e => HX.out.nv _ (by simp) b e
      have hvq : ¬ (Value.slice a5 W1.mobs.length d5).ownBlock = some q := fun e => by
        obtain ⟨_, _, h2⟩ := Row.typed HX.out.mobs.row e
        exact typed_ne h2 HX.out.blk (by decide) rfl
      have hvb : ¬ (Value.slice a5 W1.mobs.length d5).ownBlock = some bs := fun e => HNB.out (hvN bs e)
      have HSB : Hid ((fun w9 : World => w9.cell? ⟨q, 5, none⟩ = some (.slice a5 W1.mobs.length d5) ∧ w9.cell? ⟨q, 1, none⟩ = some (.int .i64 n1) ∧ w9.cell? ⟨bs, 0, none⟩ = some (.int .i64 m.id) ∧ w9.cell? ⟨bs, 2, none⟩ = some (.int .i64 m.home) ∧ w9.cell? ⟨bs, 3, none⟩ = some (.int .i64 m.hp)) w9) := Lib.hid (by
        have hS9 := HSA.out
        obtain ⟨z0, z1, z2, z3, z4⟩ := hS9
        exact ⟨(r2.cell (World.block_lt_of_cell? _ _ z0) hvq _).trans z0, (r2.cell (World.block_lt_of_cell? _ _ z1) hvq _).trans z1, (r2.cell (World.block_lt_of_cell? _ _ z2) hvb _).trans z2, (r2.cell (World.block_lt_of_cell? _ _ z3) hvb _).trans z3, (r2.cell (World.block_lt_of_cell? _ _ z4) hvb _).trans z4⟩)
      have f9 := nw.2.2.2
      have hq9 := HSB.out.1
      have NW := Lib.hid nw
      have R2 := Lib.hid r2
      clear r1 r2 r3 nw hvq hvb hvN
      refine hK9.out _ _ (fun _ _ => HSB.out) ?_
      clear hK9 K9
      refine Cd.wpAnyZ_takeD (i := 18) (d := 40) (v := ?_) rfl rfl (by kernel_rfl) (by kernel_rfl) (by kernel_rfl) (fun _ _ _ h => h) (by rfl) ?_ ?_
      rotate_left 1
      · (intro w9; go_simp <;> with_reducible rfl)
      simp only [Act.put, List.setIfInBounds_toArray, List.set_cons_succ, List.set_cons_zero]
      refine Cd.wpAnyZ_takeD (i := 19) (d := 41) (v := ?_) rfl rfl (by kernel_rfl) (by kernel_rfl) (by kernel_rfl) (fun _ _ _ h => h) (by rfl) ?_ ?_
      rotate_left 1
      · (intro w9; go_simp <;> with_reducible rfl)
      simp only [Act.put, List.setIfInBounds_toArray, List.set_cons_succ, List.set_cons_zero]
      refine Cd.wpAnyZ_one (i := 20) rfl (by kernel_rfl) (by rfl) ?_
      intro K9 hK9
      go_simp
      refine hK9.out _ _ (fun _ _ => (by rename_i h9 h10; exact absurd (by simp) h9)) ?_
      clear hK9 K9
      refine Cd.wpAnyZ_done (by kernel_rfl) ?_ _
      obtain ⟨n1w, n2w, n3w, n4w⟩ := NW.out
      have hext := (Ext.of_keep0 (M := N9) HA9.out).trans n2w
      obtain ⟨wc, hwc⟩ : ∃ wc, wc = w9.setCell ⟨q, 5, none⟩ (.slice a9 (W1.mobs.length + 1) c9) := ⟨_, rfl⟩
      have TA : Hid (NwR w q { W1 with mobs := W1.mobs ++ [⟨n1, m.id, m.home, m.hp⟩] } wc) := Lib.hid (by
        rw [hwc]
        exact NwR.step HK0.out (fun b hb => ⟨(HN0.out b hb).1, Nat.lt_of_lt_of_le (HN0.out b hb).2 HSZ.out⟩) n1w hext n3w)
      rw [← hwc]
      clear n1w n2w n3w n4w hext NW f9 hq9 HSA HSB HX HRX HD hwc HS11 HG11 HA9 R2 HN0 HK0 HSZ HNB HB0 KX HBS
      have o1 : wc.cell? ⟨q, 1, none⟩ = some (.int .i64 n1) := by have := TA.out.own.2.1; rw [← HN1.out]; exact this
      have hn1 : n1 = (i : Int) + 1 := HNI.out
      have hwr : IntKind.i64.wrap (n1 + 1) = n1 + 1 := by simp [IntKind.wrap, IntKind.signed, IntKind.bits]; omega
      obtain ⟨t2, z2⟩ := TA.out.setOwn (j := 1) (a := W1.now) (b := n1 + 1) (c := W1.minted) (v := .int .i64 (n1 + 1)) (by omega) rfl
      have TZ : Hid (NwR w q (newM D (i + 1)) (wc.setCell ⟨q, 1, none⟩ (.int .i64 (n1 + 1)))) := Lib.hid (by
        rw [HW1.out] at t2
        rw [show newM D (i + 1) = { newM D i with now := (newM D i).now, next := n1 + 1, minted := (newM D i).minted, mobs := (newM D i).mobs ++ [⟨n1, m.id, m.home, m.hp⟩] } by
          unfold newM; rw [HMK.out, hn1]; simp]
        exact t2)
      clear t2 hn1 HN1 HNI
      go_wp2
      go_roundw
      case rel => exact ⟨i + 1, by omega, by go_num, TZ.out⟩
      case measure => simp [intOf] <;> omega
    · have hd1 : decide (i < D.mobs.length) = false := by simpa using hlt
      have hi9 : i = D.mobs.length := by omega
      have TT : Hid (NwR w q (newT D 0) wr) := Lib.hid (by
        have := T1.out
        rwa [show newT D 0 = newM D i by unfold newT newM; rw [hi9, List.take_of_length_le (Nat.le_refl _)]; simp [tillsL]])
      have q5 := (HQ.out _ T1.out.k).2
      clear hi9 T1
      obtain ⟨i0, z0, hi0, hz0, hz1, hz2, hz3⟩ := info_cells Tryz.infoTilN
      go_wp2
      clear q5
      go_loopw [55] (fun iv wr => NewTR D w q iv wr) (fun iv _ => D.shops.length - (intOf iv).toNat)
      case atStart => exact ⟨0, by omega, rfl, TT.out⟩
      case round =>
        obtain ⟨i, hi, rfl, hn⟩ := hrel.ex
        have T1 := Lib.hid hn
        clear hrel hn TT hlt hd1
        by_cases hlt : i < D.shops.length
        · have hd1 : decide (i < D.shops.length) = true := by simpa using hlt
          obtain ⟨y, hy⟩ : ∃ y, ss[i]? = some y := ⟨_, List.getElem?_eq_getElem (by omega)⟩
          obtain ⟨m, dv⟩ := y
          have hm9 : D.shops[i]? = some m := by rw [← HS6.out, List.getElem?_map, hy]; rfl
          have HMK := Lib.hid (tillsL_take hm9)
          obtain ⟨ia, ic, hdv⟩ := HI6.out _ (List.mem_of_getElem? hy)
          simp only at hdv
          subst hdv
          obtain ⟨gm, om, rfl, hgm⟩ := (HR6.out wr T1.out.k).some hy
          have HMP := Lib.hid ((HR6.out wr T1.out.k).range shopC_len i _ hy)
          have g0 : wr.cell? ⟨gm, om + i * 3, none⟩ = some (.int .i64 m.room) := by simpa using HMP.out 0 _ rfl
          have g1 : wr.cell? ⟨gm, om + i * 3 + 1, none⟩ = some (.int .i64 m.till) := by simpa using HMP.out 1 _ rfl
          have g2 : wr.cell? ⟨gm, om + i * 3 + 2, none⟩ = some (.slice ia m.items.length ic) := by simpa using HMP.out 2 _ rfl
          clear hy hm9 HMP
          go_upto_region 13 with (fail)
          obtain ⟨X0, hX0⟩ : ∃ X0, X0 = wr.alloc (.cells #[.int .i64 m.room, .int .i64 m.till, .slice ia m.items.length ic] 107) := ⟨_, rfl⟩
          have HB0 : Hid (X0.heap[wr.heap.size]? = some (.cells #[.int .i64 m.room, .int .i64 m.till, .slice ia m.items.length ic] 107 (0, 0))) := Lib.hid (by rw [hX0]; exact heap_alloc_new wr _)
          have KX : Hid (Keep (fun _ => False) wr X0) := Lib.hid (by rw [hX0]; exact (Keep.refl _ wr).alloc _)
          rw [← hX0]
          clear hX0 g0 g1 g2
          generalize hbs : wr.heap.size = bs at *
          have HBS := Lib.hid hbs
          clear hbs
          obtain ⟨W1, hW1⟩ : ∃ W1, W1 = newT D i := ⟨_, rfl⟩
          rw [← hW1] at T1
          have hm60 : W1.tills.length ≤ 60 := by rw [hW1]; show (tillsL (D.shops.take i)).length ≤ 60; rw [tillsL_len, List.length_take]; omega
          have HW1 := Lib.hid hW1
          clear hW1
          have b0 : X0.drew.cell? ⟨bs, 0, none⟩ = some (.int .i64 m.room) := (cell_of_row X0 bs 0 _ _ _ HB0.out).trans rfl
          have b1 : X0.drew.cell? ⟨bs, 1, none⟩ = some (.int .i64 m.till) := (cell_of_row X0 bs 1 _ _ _ HB0.out).trans rfl
          obtain ⟨N9, v1, v2, v3, v4, v5, v6, cr, hr, hw0, hk0, hN0⟩ := T1.out.ex
          have hw := (hw0.keep KX.out (fun _ _ e => e)).keep (Keep.refl (fun _ => False) X0).drew (fun _ _ e => e)
          obtain ⟨a5, d5, rfl, h51, h52⟩ := hw.tills.slice
          have q5 : X0.drew.cell? ⟨q, 8, none⟩ = some (.slice a5 W1.tills.length d5) := (cell_of_row X0.drew q 8 _ _ _ hw.blk).trans rfl
          have HNB : Hid (¬ N9 bs) := Lib.hid (fun e => by have := (hN0 bs e).2; have := HBS.out; omega)
          have HD := Lib.hid hw
          have HN0 := Lib.hid hN0
          have HK0 : Hid (Keep (fun _ => False) w X0.drew) := Lib.hid (hk0.trans KX.out (fun _ e => e.elim)).drew
          have HS11 : Hid ((fun w9 : World => w9.cell? ⟨q, 8, none⟩ = some (.slice a5 W1.tills.length d5) ∧ w9.cell? ⟨bs, 0, none⟩ = some (.int .i64 m.room) ∧ w9.cell? ⟨bs, 1, none⟩ = some (.int .i64 m.till)) X0.drew) := Lib.hid ⟨q5, b0, b1⟩
          have HG11 : Hid (∀ w9 : World, Keep (fun _ => False) X0.drew w9 → (fun w9 : World => w9.cell? ⟨q, 8, none⟩ = some (.slice a5 W1.tills.length d5) ∧ w9.cell? ⟨bs, 0, none⟩ = some (.int .i64 m.room) ∧ w9.cell? ⟨bs, 1, none⟩ = some (.int .i64 m.till)) w9) := Lib.hid (fun w9 k9 => by
            have hS9 := HS11.out
            obtain ⟨z0, z1, z2⟩ := hS9
            exact ⟨(k9.cell (World.block_lt_of_cell? _ _ z0) (fun h => h) _).trans z0, (k9.cell (World.block_lt_of_cell? _ _ z1) (fun h => h) _).trans z1, (k9.cell (World.block_lt_of_cell? _ _ z2) (fun h => h) _).trans z2⟩)
          clear hw hw0 hk0 hN0 q5 b0 b1
          refine Cd.wp_region_z (fun w9 : World => w9.cell? ⟨q, 8, none⟩ = some (.slice a5 W1.tills.length d5) ∧ w9.cell? ⟨bs, 0, none⟩ = some (.int .i64 m.room) ∧ w9.cell? ⟨bs, 1, none⟩ = some (.int .i64 m.till)) [14] (by kernel_rfl) ?_
          have HSZ : Hid (wr.heap.size ≤ X0.drew.heap.size) := Lib.hid KX.out.size
          generalize X0.drew = wd at *
          refine Cd.wpAnyZ_takeD (i := 0) (d := 59) (v := ?_) rfl rfl (by kernel_rfl) (by kernel_rfl) (by kernel_rfl) (fun _ _ _ h => h) (by rfl) ?_ ?_
          rotate_left 1
          · (intro w9; go_simp <;> with_reducible rfl)
          simp only [Act.put, List.setIfInBounds_toArray, List.set_cons_succ, List.set_cons_zero]
          refine Cd.wpAnyZ_takeD (i := 1) (d := 60) (v := ?_) rfl rfl (by kernel_rfl) (by kernel_rfl) (by kernel_rfl) (fun _ _ _ h => h) (by rfl) ?_ ?_
          rotate_left 1
          · (intro w9; go_simp <;> with_reducible rfl)
          simp only [Act.put, List.setIfInBounds_toArray, List.set_cons_succ, List.set_cons_zero]
          refine Cd.wpAnyZ_takeD (i := 2) (d := 61) (v := ?_) rfl rfl (by kernel_rfl) (by kernel_rfl) (by kernel_rfl) (fun _ _ _ h => h) (by rfl) ?_ ?_
          rotate_left 1
          · (intro w9; go_simp <;> with_reducible rfl)
          simp only [Act.put, List.setIfInBounds_toArray, List.set_cons_succ, List.set_cons_zero]
          refine Cd.wpAnyZ_takeD (i := 3) (d := 62) (v := ?_) rfl rfl (by kernel_rfl) (by kernel_rfl) (by kernel_rfl) (fun _ _ _ h => h) (by rfl) ?_ ?_
          rotate_left 1
          · (intro w9; go_simp <;> with_reducible rfl)
          simp only [Act.put, List.setIfInBounds_toArray, List.set_cons_succ, List.set_cons_zero]
          refine Cd.wpAnyZ_loadD (i := 4) (d := 63) (v := ?_) rfl rfl (by kernel_rfl) (by kernel_rfl) (by kernel_rfl) (by kernel_rfl) (fun _ _ _ h => h) HS11.out (by rfl) ?_ ?_
          rotate_left 1
          · (intro w9 hS9; obtain ⟨z0, z1, z2⟩ := hS9; go_simp <;> with_reducible rfl)
          simp only [Act.put, List.setIfInBounds_toArray, List.set_cons_succ, List.set_cons_zero]
          refine Cd.wpAnyZ_takeD (i := 5) (d := 64) (v := ?_) rfl rfl (by kernel_rfl) (by kernel_rfl) (by kernel_rfl) (fun _ _ _ h => h) (by rfl) ?_ ?_
          rotate_left 1
          · (intro w9; go_simp <;> with_reducible rfl)
          simp only [Act.put, List.setIfInBounds_toArray, List.set_cons_succ, List.set_cons_zero]
          refine Cd.wpAnyZ_loadD (i := 6) (d := 65) (v := ?_) rfl rfl (by kernel_rfl) (by kernel_rfl) (by kernel_rfl) (by kernel_rfl) (fun _ _ _ h => h) HS11.out (by rfl) ?_ ?_
          rotate_left 1
          · (intro w9 hS9; obtain ⟨z0, z1, z2⟩ := hS9; go_simp <;> with_reducible rfl)
          simp only [Act.put, List.setIfInBounds_toArray, List.set_cons_succ, List.set_cons_zero]
          refine Cd.wpAnyZ_takeD (i := 7) (d := 66) (v := ?_) rfl rfl (by kernel_rfl) (by kernel_rfl) (by kernel_rfl) (fun _ _ _ h => h) (by rfl) ?_ ?_
          rotate_left 1
          · (intro w9; go_simp <;> with_reducible rfl)
          simp only [Act.put, List.setIfInBounds_toArray, List.set_cons_succ, List.set_cons_zero]
          refine Cd.wpAnyZ_loadD (i := 8) (d := 67) (v := ?_) rfl rfl (by kernel_rfl) (by kernel_rfl) (by kernel_rfl) (by kernel_rfl) (fun _ _ _ h => h) HS11.out (by rfl) ?_ ?_
          rotate_left 1
          · (intro w9 hS9; obtain ⟨z0, z1, z2⟩ := hS9; go_simp <;> with_reducible rfl)
          simp only [Act.put, List.setIfInBounds_toArray, List.set_cons_succ, List.set_cons_zero]
          refine Cd.wpAnyZ_takeD (i := 9) (d := 68) (v := ?_) rfl rfl (by kernel_rfl) (by kernel_rfl) (by kernel_rfl) (fun _ _ _ h => h) (by rfl) ?_ ?_
          rotate_left 1
          · (intro w9; go_simp <;> with_reducible rfl)
          simp only [Act.put, List.setIfInBounds_toArray, List.set_cons_succ, List.set_cons_zero]
          refine Cd.wpAnyZ_one (i := 10) rfl (by kernel_rfl) (by rfl) ?_
          intro K9 hK9
          go_simp
          have ha9 : Keep (fun _ => False) wd (wd.alloc (.cells #[.int .i64 m.room, .int .i64 m.till] 82)) := (Keep.refl _ wd).alloc _
          have HSA : Hid ((fun w9 : World => w9.cell? ⟨q, 8, none⟩ = some (.slice a5 W1.tills.length d5) ∧ w9.cell? ⟨bs, 0, none⟩ = some (.int .i64 m.room) ∧ w9.cell? ⟨bs, 1, none⟩ = some (.int .i64 m.till)) (wd.alloc (.cells #[.int .i64 m.room, .int .i64 m.till] 82))) := Lib.hid (HG11.out _ ha9)
          have HX := Lib.hid (HD.out.keep ha9 (fun _ _ e => e))
          have HRX : Hid (Row (wd.alloc (.cells #[.int .i64 m.room, .int .i64 m.till] 82)) 82 2 (.slice (some ⟨wd.heap.size, 0, none⟩) 1 1) 1 (tiC ⟨m.room, m.till⟩)) := Lib.hid (Row.made (w := wd) (tiC ⟨m.room, m.till⟩).toArray wd.heap.size 1 rfl (by simp [maxLen]) (by simp [tiC]))
          have HA9 := Lib.hid ha9
          clear ha9
          refine hK9.out _ _ (fun _ _ => HSA.out) ?_
          clear hK9 K9
          refine Cd.wpAnyZ_one (i := 11) rfl (by kernel_rfl) (by rfl) ?_
          intro K9 hK9
          --raw
          refine oper_append_row (.tmp 63) (.tmp 69) rfl Tryz.underlying50 hi0 hz0 hz1 hz2 hz3 rfl HX.out.tills.row rfl (HRX.out.src Tryz.underlying50 (by simp [tiC, Value.oneCell'])) (by unfold maxLen; omega) (by omega) ?_
          intro v9 w9 r1 r2 r3 _
          obtain ⟨a9, c9, rfl, _, _⟩ := r1.slice
          have nw := HX.out.newTills (L := W1.tills ++ [⟨m.room, m.till⟩]) (by rw [List.length_append, flat_append, flat_one]; exact r1) r2 r3
          have hvN : ∀ b, (Value.slice a5 W1.tills.length d5).ownBlock = some b → N9 b := fun b e => HX.out.nv _ (by simp) b e
          have hvq : ¬ (Value.slice a5 W1.tills.length d5).ownBlock = some q := fun e => by
            obtain ⟨_, _, h2⟩ := Row.typed HX.out.tills.row e
            exact typed_ne h2 HX.out.blk (by decide) rfl
          have hvb : ¬ (Value.slice a5 W1.tills.length d5).ownBlock = some bs := fun e => HNB.out (hvN bs e)
          have HSB : Hid ((fun w9 : World => w9.cell? ⟨q, 8, none⟩ = some (.slice a5 W1.tills.length d5) ∧ w9.cell? ⟨bs, 0, none⟩ = some (.int .i64 m.room) ∧ w9.cell? ⟨bs, 1, none⟩ = some (.int .i64 m.till)) w9) := Lib.hid (by
            have hS9 := HSA.out
            obtain ⟨z0, z1, z2⟩ := hS9
            exact ⟨(r2.cell (World.block_lt_of_cell? _ _ z0) hvq _).trans z0, (r2.cell (World.block_lt_of_cell? _ _ z1) hvb _).trans z1, (r2.cell (World.block_lt_of_cell? _ _ z2) hvb _).trans z2⟩)
          have f9 := nw.2.2.2
          have hq9 := HSB.out.1
          have NW := Lib.hid nw
          have R2 := Lib.hid r2
          clear r1 r2 r3 nw hvq hvb hvN
          refine hK9.out _ _ (fun _ _ => HSB.out) ?_
          clear hK9 K9
          refine Cd.wpAnyZ_takeD (i := 12) (d := 71) (v := ?_) rfl rfl (by kernel_rfl) (by kernel_rfl) (by kernel_rfl) (fun _ _ _ h => h) (by rfl) ?_ ?_
          rotate_left 1
          · (intro w9; go_simp <;> with_reducible rfl)
          simp only [Act.put, List.setIfInBounds_toArray, List.set_cons_succ, List.set_cons_zero]
          refine Cd.wpAnyZ_takeD (i := 13) (d := 72) (v := ?_) rfl rfl (by kernel_rfl) (by kernel_rfl) (by kernel_rfl) (fun _ _ _ h => h) (by rfl) ?_ ?_
          rotate_left 1
          · (intro w9; go_simp <;> with_reducible rfl)
          simp only [Act.put, List.setIfInBounds_toArray, List.set_cons_succ, List.set_cons_zero]
          refine Cd.wpAnyZ_one (i := 14) rfl (by kernel_rfl) (by rfl) ?_
          intro K9 hK9
          go_simp
          refine hK9.out _ _ (fun _ _ => (by rename_i h9 h10; exact absurd (by simp) h9)) ?_
          clear hK9 K9
          refine Cd.wpAnyZ_done (by kernel_rfl) ?_ _
          obtain ⟨n1w, n2w, n3w, n4w⟩ := NW.out
          have hext := (Ext.of_keep0 (M := N9) HA9.out).trans n2w
          obtain ⟨wc, hwc⟩ : ∃ wc, wc = w9.setCell ⟨q, 8, none⟩ (.slice a9 (W1.tills.length + 1) c9) := ⟨_, rfl⟩
          have TA : Hid (NwR w q { W1 with tills := W1.tills ++ [⟨m.room, m.till⟩] } wc) := Lib.hid (by
            rw [hwc]
            exact NwR.step HK0.out (fun b hb => ⟨(HN0.out b hb).1, Nat.lt_of_lt_of_le (HN0.out b hb).2 HSZ.out⟩) n1w hext n3w)
          rw [← hwc]
          clear n1w n2w n3w n4w hext NW f9 hq9 HSA HSB HX HRX HD hwc HS11 HG11 HA9 R2 HN0 HK0 HSZ HNB HB0 KX HBS
          have TZ : Hid (NwR w q (newT D (i + 1)) wc) := Lib.hid (by
            have t2 := TA.out
            rw [HW1.out] at t2
            rw [show newT D (i + 1) = { newT D i with tills := (newT D i).tills ++ [⟨m.room, m.till⟩] } by
              unfold newT; rw [HMK.out]]
            exact t2)
          go_wp2
          go_roundw
          case rel => exact ⟨i + 1, by omega, by go_num, TZ.out⟩
          case measure => simp [intOf] <;> omega
        · have hd1 : decide (i < D.shops.length) = false := by simpa using hlt
          have hi9 : i = D.shops.length := by omega
          rw [hi9] at T1
          have CT := Lib.hid (HT.out wr q T1.out)
          have f2 : ∀ w9, Keep (fun _ => False) wr w9 → w9.frozen? ⟨q, 2, none⟩ = false := fun w9 k9 => ((T1.out.keep0 k9).setOwn (j := 2) (a := 0) (b := (D.mobs.length : Int) + 1) (c := 0) (v := .int .i64 0) (by omega) rfl).2
          have FF := Lib.hid f2
          clear hi9 f2
          go_wp2_with (go_at_call 56; (with_reducible refine CT.out.mono ?_); rintro e w9 ⟨rfl, k9⟩; have f9 := FF.out _ k9; have K9 := Lib.hid k9; have hq9 := (T1.out.keep0 k9).own.2.2; clear k9)
          go_ret
          obtain ⟨t2, z2⟩ := (T1.out.keep0 K9.out).setOwn (j := 2) (a := 0) (b := (D.mobs.length : Int) + 1) (c := sumT D.shops) (v := .int .i64 (sumT D.shops)) (by omega) rfl
          refine ⟨q, rfl, ?_⟩
          rw [show newF D = { newT D D.shops.length with now := 0, next := (D.mobs.length : Int) + 1, minted := sumT D.shops } by
            unfold newF newT; rw [List.take_of_length_le (Nat.le_refl _)]]
          exact t2
end Go.Proofs.YtheaghgockafmaaGreat.Wd
