/- Worlds: places by names and numbers; who and what is where (made by tools/genwd.py). -/
import Derived.Test.YtheaghgockafmaaGreatWdU
namespace Go.Proofs.YtheaghgockafmaaGreat.Wd
open Go.RowKit Go.Proofs.YtheaghgockafmaaGreat Go.Proofs.YtheaghgockafmaaGreat.Lin
set_option maxRecDepth 100000

theorem findI_map {α β : Type} (f : α → β) (p : β → Bool) : ∀ L : List α, findI p (L.map f) = findI (fun x => p (f x)) L
  | [] => rfl
  | a :: L => by rw [List.map_cons, findI, findI, findI_map f p L]
theorem places_map {α β : Type} (f : α → β) (p : β → Bool) : ∀ (L : List α) (k : Nat), places p k (L.map f) = places (fun x => p (f x)) k L
  | [], _ => rfl
  | a :: L, k => by rw [List.map_cons, places, places, places_map f p L]

structure PlR {α : Type} (p : α → Bool) (L : List α) (w0 : World) (lv iv : Value) (wr : World) : Prop where
  ex : ∃ k : Nat, k ≤ L.length ∧ iv = .int .i64 (k : Int) ∧ Row wr 3 1 lv (places p 0 (L.take k)).length (icells (places p 0 (L.take k))) ∧ (∀ b, lv.ownBlock = some b → w0.heap.size ≤ b) ∧ Keep (fun x => w0.heap.size ≤ x) w0 wr

/-- A new list of places is answered. -/
def PlA (l : List Int) (w : World) (e : Ending) (w' : World) : Prop :=
  ∃ v, e = .returned v ∧ Row w' 3 1 v l.length (icells l) ∧ (∀ b, v.ownBlock = some b → w.heap.size ≤ b) ∧ Keep (fun _ => False) w w'

theorem int_beq {a b : Int} : ((a == b) = true ∧ a = b) ∨ ((a == b) = false ∧ a ≠ b) := by
  by_cases h : a = b
  · exact .inl ⟨by simpa using h, h⟩
  · exact .inr ⟨by simpa using h, h⟩
theorem str_cases (a b : ByteArray) : ((a.toList == b.toList) = true ∧ decide (a = b) = true) ∨ ((a.toList == b.toList) = false ∧ decide (a = b) = false) := by
  rw [str_beq]; cases decide (a = b) <;> simp

set_option maxHeartbeats 1000000 in
theorem refChar_any {N : Nat → Prop} {w : World} {q : Nat} {W : WM} (h : WAt N w q W) (hl : W.chars.length ≤ 1000000) (s : ByteArray) : Calls Tryz.prog 82 #[.pointer (some ⟨q, 0, none⟩), .string s] w fun e w' => e = .returned (.int .i64 (findI (fun x => decide (x.name = s)) W.chars)) ∧ w = w' := by
  obtain ⟨v1, v2, v3, v4, v5, v6, cr, hr, h⟩ := h
  have p1 : w.cell? ⟨q, 3, none⟩ = some v1 := (cell_of_row w q 3 _ _ _ h.blk).trans rfl
  have H1 := Lib.hid h.chars
  obtain ⟨a1, c1, rfl, hc1, hc2⟩ := H1.out.slice
  unfold maxLen at hc2
  have hqs := lt_of_block h.blk
  have hcm := h.charm
  obtain ⟨L, hL⟩ : ∃ L, L = cr := ⟨_, rfl⟩
  rw [← hL] at hcm H1 p1 hc1
  rw [← hcm] at hl ⊢
  rw [List.length_map] at hl
  rw [findI_map]
  clear h hL hcm
  go_enter Tryz.func82, Tryz.ntmps82
  go_wp2
  go_loop [5] (fun iv => ScR (fun x : ChM × Value => decide (x.1.name = s)) L iv) (fun iv => L.length - (intOf iv).toNat)
  case atStart => exact ⟨0, by omega, rfl, fun j a hj => by omega⟩
  case round =>
    obtain ⟨k, hk, rfl, hall⟩ := hrel.ex
    have HA := Lib.hid hall
    clear hall hrel
    by_cases hlt : k < L.length
    · have hd1 : decide (k < L.length) = true := by simpa using hlt
      obtain ⟨x, hx⟩ : ∃ x, L[k]? = some x := ⟨_, List.getElem?_eq_getElem hlt⟩
      obtain ⟨g, off, rfl, _⟩ := H1.out.some hx
      have q1 : w.cell? ⟨g, off + k * 10, none⟩ = some (.string x.1.name) := H1.out.cell chC_len k 0 x hx (by omega)
      have HX := Lib.hid hx
      clear hx
      rcases str_cases x.1.name s with ⟨b1, hp⟩ | ⟨b1, hp⟩
      · have HF := Lib.hid (findI_at (p := fun x : ChM × Value => decide (x.1.name = s)) HA.out HX.out hp)
        clear hp
        go_wp2
        go_ret
        exact ⟨by rw [HF.out]; rfl, rfl⟩
      · have HN := Lib.hid (scan_next (p := fun x : ChM × Value => decide (x.1.name = s)) HA.out HX.out hp)
        clear hp
        go_wp2
        go_round
        case rel => exact ⟨k + 1, by omega, by go_num, HN.out⟩
        case measure => simp [intOf]; omega
    · have hd1 : decide (k < L.length) = false := by rw [decide_eq_false_iff_not]; omega
      have HF := Lib.hid (findI_none (scan_end HA.out (by omega)))
      go_wp2
      go_ret
      exact ⟨by rw [HF.out]; rfl, rfl⟩

set_option maxHeartbeats 1000000 in
theorem refThing_any {N : Nat → Prop} {w : World} {q : Nat} {W : WM} (h : WAt N w q W) (hl : W.things.length ≤ 1000000) (id : Int) : Calls Tryz.prog 45 #[.pointer (some ⟨q, 0, none⟩), .int .i64 id] w fun e w' => e = .returned (.int .i64 (findI (fun x => x.id == id) W.things)) ∧ w = w' := by
  obtain ⟨v1, v2, v3, v4, v5, v6, cr, hr, h⟩ := h
  have p1 : w.cell? ⟨q, 4, none⟩ = some v2 := (cell_of_row w q 4 _ _ _ h.blk).trans rfl
  have H1 := Lib.hid h.things
  obtain ⟨a1, c1, rfl, hc1, hc2⟩ := H1.out.slice
  unfold maxLen at hc2
  have hqs := lt_of_block h.blk
  obtain ⟨L, hL⟩ : ∃ L, L = W.things := ⟨_, rfl⟩
  rw [← hL] at H1 p1 hc1 hl ⊢

  clear h hL
  go_enter Tryz.func45, Tryz.ntmps45
  go_wp2
  go_loop [5] (fun iv => ScR (fun x : ThM => x.id == id) L iv) (fun iv => L.length - (intOf iv).toNat)
  case atStart => exact ⟨0, by omega, rfl, fun j a hj => by omega⟩
  case round =>
    obtain ⟨k, hk, rfl, hall⟩ := hrel.ex
    have HA := Lib.hid hall
    clear hall hrel
    by_cases hlt : k < L.length
    · have hd1 : decide (k < L.length) = true := by simpa using hlt
      obtain ⟨x, hx⟩ : ∃ x, L[k]? = some x := ⟨_, List.getElem?_eq_getElem hlt⟩
      obtain ⟨g, off, rfl, _⟩ := H1.out.some hx
      have q1 : w.cell? ⟨g, off + k * 5, none⟩ = some (.int .i64 x.id) := H1.out.cell thC_len k 0 x hx (by omega)
      have HX := Lib.hid hx
      clear hx
      rcases int_beq (a := x.id) (b := id) with ⟨b1, hp⟩ | ⟨b1, hp⟩
      · have HF := Lib.hid (findI_at (p := fun x : ThM => x.id == id) HA.out HX.out b1)
        clear hp
        go_wp2
        go_ret
        exact ⟨by rw [HF.out]; rfl, rfl⟩
      · have HN := Lib.hid (scan_next (p := fun x : ThM => x.id == id) HA.out HX.out b1)
        clear hp
        go_wp2
        go_round
        case rel => exact ⟨k + 1, by omega, by go_num, HN.out⟩
        case measure => simp [intOf]; omega
    · have hd1 : decide (k < L.length) = false := by rw [decide_eq_false_iff_not]; omega
      have HF := Lib.hid (findI_none (scan_end HA.out (by omega)))
      go_wp2
      go_ret
      exact ⟨by rw [HF.out]; rfl, rfl⟩

set_option maxHeartbeats 1000000 in
theorem refMobAt_any {N : Nat → Prop} {w : World} {q : Nat} {W : WM} (h : WAt N w q W) (hl : W.mobs.length ≤ 1000000) (id : Int) : Calls Tryz.prog 343 #[.pointer (some ⟨q, 0, none⟩), .int .i64 id] w fun e w' => e = .returned (.int .i64 (findI (fun x => x.id == id) W.mobs)) ∧ w = w' := by
  obtain ⟨v1, v2, v3, v4, v5, v6, cr, hr, h⟩ := h
  have p1 : w.cell? ⟨q, 5, none⟩ = some v3 := (cell_of_row w q 5 _ _ _ h.blk).trans rfl
  have H1 := Lib.hid h.mobs
  obtain ⟨a1, c1, rfl, hc1, hc2⟩ := H1.out.slice
  unfold maxLen at hc2
  have hqs := lt_of_block h.blk
  obtain ⟨L, hL⟩ : ∃ L, L = W.mobs := ⟨_, rfl⟩
  rw [← hL] at H1 p1 hc1 hl ⊢

  clear h hL
  go_enter Tryz.func343, Tryz.ntmps343
  go_wp2
  go_loop [5] (fun iv => ScR (fun x : MoM => x.id == id) L iv) (fun iv => L.length - (intOf iv).toNat)
  case atStart => exact ⟨0, by omega, rfl, fun j a hj => by omega⟩
  case round =>
    obtain ⟨k, hk, rfl, hall⟩ := hrel.ex
    have HA := Lib.hid hall
    clear hall hrel
    by_cases hlt : k < L.length
    · have hd1 : decide (k < L.length) = true := by simpa using hlt
      obtain ⟨x, hx⟩ : ∃ x, L[k]? = some x := ⟨_, List.getElem?_eq_getElem hlt⟩
      obtain ⟨g, off, rfl, _⟩ := H1.out.some hx
      have q1 : w.cell? ⟨g, off + k * 4, none⟩ = some (.int .i64 x.id) := H1.out.cell moC_len k 0 x hx (by omega)
      have HX := Lib.hid hx
      clear hx
      rcases int_beq (a := x.id) (b := id) with ⟨b1, hp⟩ | ⟨b1, hp⟩
      · have HF := Lib.hid (findI_at (p := fun x : MoM => x.id == id) HA.out HX.out b1)
        clear hp
        go_wp2
        go_ret
        exact ⟨by rw [HF.out]; rfl, rfl⟩
      · have HN := Lib.hid (scan_next (p := fun x : MoM => x.id == id) HA.out HX.out b1)
        clear hp
        go_wp2
        go_round
        case rel => exact ⟨k + 1, by omega, by go_num, HN.out⟩
        case measure => simp [intOf]; omega
    · have hd1 : decide (k < L.length) = false := by rw [decide_eq_false_iff_not]; omega
      have HF := Lib.hid (findI_none (scan_end HA.out (by omega)))
      go_wp2
      go_ret
      exact ⟨by rw [HF.out]; rfl, rfl⟩

set_option maxHeartbeats 2000000 in
theorem refMobs_any {N : Nat → Prop} {w : World} {q : Nat} {W : WM} (h : WAt N w q W) (hl : W.mobs.length ≤ 1000000) (r : Int) : Calls Tryz.prog 169 #[.pointer (some ⟨q, 0, none⟩), .int .i64 r] w (PlA (places (fun x => x.room == r) 0 W.mobs) w) := by
  obtain ⟨i0, hi0, hz0, hz1, hz2⟩ := info_parts Tryz.infoI
  obtain ⟨v1, v2, v3, v4, v5, v6, cr, hr, h⟩ := h
  have p1 : w.cell? ⟨q, 5, none⟩ = some v3 := (cell_of_row w q 5 _ _ _ h.blk).trans rfl
  have H1 := Lib.hid h.mobs
  obtain ⟨a1, c1, rfl, hc1, hc2⟩ := H1.out.slice
  unfold maxLen at hc2
  have hqs := lt_of_block h.blk
  obtain ⟨L, hL⟩ : ∃ L, L = W.mobs := ⟨_, rfl⟩
  rw [← hL] at H1 p1 hc1 hl ⊢

  have HQ : Hid (∀ w9 : World, Keep (fun x => w.heap.size ≤ x) w w9 → w9.cell? ⟨q, 5, none⟩ = some (.slice a1 L.length c1)) := Lib.hid (fun w9 k => (k.cell hqs (by omega) _).trans p1)
  clear h hL p1
  have p1 := HQ.out w (Keep.refl _ _)
  go_enter Tryz.func169, Tryz.ntmps169
  go_wp2
  go_loopw [5, 6] (fun lv iv  wr => PlR (fun x : MoM => x.room == r) L w lv iv wr) (fun _ iv  _ => L.length - (intOf iv).toNat)
  case atStart => exact ⟨0, by omega, rfl, Row.nil _ _ _, fun b hb => by simp [Value.ownBlock] at hb, Keep.refl _ _⟩
  case round =>
    obtain ⟨k, hk, rfl, hrow, hown, hK⟩ := hrel.ex
    have HROW := Lib.hid hrow; have HOWN := Lib.hid hown; have HK := Lib.hid hK
    clear hrow hown hrel
    have p2 := HQ.out wr hK
    clear hK
    obtain ⟨va, vc, rfl, hvc1, hvc2⟩ := HROW.out.slice
    have hpl : (places (fun x : MoM => x.room == r) 0 (L.take k)).length ≤ 1000000 := by
      have := places_len (fun x : MoM => x.room == r) (L.take k) 0
      rw [List.length_take] at this; omega
    by_cases hlt : k < L.length
    · have hd1 : decide (k < L.length) = true := by simpa using hlt
      obtain ⟨x, hx⟩ : ∃ x, L[k]? = some x := ⟨_, List.getElem?_eq_getElem hlt⟩
      obtain ⟨g, off, rfl, hg⟩ := H1.out.some hx
      have q1 : wr.cell? ⟨g, off + k * 4 + 2, none⟩ = some (.int .i64 x.room) := (HK.out.cell hg (by omega) _).trans (H1.out.cell moC_len k 2 x hx (by omega))
      have HX := Lib.hid hx
      clear hx
      rcases int_beq (a := x.room) (b := r) with ⟨b1, -⟩ | ⟨b1, -⟩
      · have HP : Hid (places (fun x : MoM => x.room == r) 0 (L.take (k + 1)) = places (fun x : MoM => x.room == r) 0 (L.take k) ++ [(k : Int)]) := Lib.hid (by rw [places_take HX.out, if_pos (by simpa using b1)])
        go_wp2_with (at_builtin; go_loud (refine wpList_append_row _ rfl (.tmp 26) (.tmp 28) rfl Tryz.underlying60 hi0 hz0 hz1 hz2 rfl rfl (HROW.out.alloc _) rfl (Src.lit Tryz.underlying60 #[.int .i64 (k : Int)] _ 1 1 rfl rfl (by simp [Value.oneCell'])) (by unfold maxLen; omega) (by omega) ?_))
        intro v7 w2 hr2 hk2 hb2 _
        have HR2 : Hid (Row w2 3 1 v7 (places (fun x : MoM => x.room == r) 0 (L.take (k + 1))).length (icells (places (fun x : MoM => x.room == r) 0 (L.take (k + 1))))) := Lib.hid (by rw [HP.out, icells_append, List.length_append]; exact hr2)
        have HOW2 : Hid (∀ b, v7.ownBlock = some b → w.heap.size ≤ b) := Lib.hid (fun b hb => by
          have hks := HK.out.size
          rcases hb2 b hb with h | h
          · exact HOWN.out b h
          · have h1 := h.1; first | omega | (simp at h1; omega))
        have HK2 : Hid (Keep (fun x => w.heap.size ≤ x) w w2) := Lib.hid ((HK.out.alloc _).trans hk2 (fun b hb => .inl (HOWN.out b hb)))
        clear hr2 hk2 hb2
        go_wp2
        go_roundw
        case rel => exact ⟨k + 1, by omega, by go_num, HR2.out, HOW2.out, HK2.out⟩
        case measure => simp [intOf]; omega
      · have HP : Hid (places (fun x : MoM => x.room == r) 0 (L.take (k + 1)) = places (fun x : MoM => x.room == r) 0 (L.take k)) := Lib.hid (by rw [places_take HX.out, if_neg (by simpa using b1), List.append_nil])
        go_wp2
        go_roundw
        case rel => exact ⟨k + 1, by omega, by go_num, by rw [HP.out]; exact HROW.out, HOWN.out, HK.out⟩
        case measure => simp [intOf]; omega
    · have hd1 : decide (k < L.length) = false := by rw [decide_eq_false_iff_not]; omega
      have hke : L.take k = L := List.take_of_length_le (by omega)
      have HFIN : Hid (Row wr 3 1 (.slice va (places (fun x : MoM => x.room == r) 0 (L.take k)).length vc) (places (fun x : MoM => x.room == r) 0 L).length (icells (places (fun x : MoM => x.room == r) 0 L))) := Lib.hid (by
        have h := HROW.out
        rw [hke] at h ⊢
        exact h)
      clear hke
      go_wp2
      go_ret
      exact ⟨_, rfl, HFIN.out, HOWN.out, HK.out.mono (fun i hi h => by omega)⟩

set_option maxHeartbeats 2000000 in
theorem refHere_any {N : Nat → Prop} {w : World} {q : Nat} {W : WM} (h : WAt N w q W) (hl : W.things.length ≤ 1000000) (r : Int) : Calls Tryz.prog 167 #[.pointer (some ⟨q, 0, none⟩), .int .i64 r] w (PlA (places (fun x => x.place == 1 && x.room == r) 0 W.things) w) := by
  obtain ⟨i0, hi0, hz0, hz1, hz2⟩ := info_parts Tryz.infoI
  obtain ⟨v1, v2, v3, v4, v5, v6, cr, hr, h⟩ := h
  have p1 : w.cell? ⟨q, 4, none⟩ = some v2 := (cell_of_row w q 4 _ _ _ h.blk).trans rfl
  have H1 := Lib.hid h.things
  obtain ⟨a1, c1, rfl, hc1, hc2⟩ := H1.out.slice
  unfold maxLen at hc2
  have hqs := lt_of_block h.blk
  obtain ⟨L, hL⟩ : ∃ L, L = W.things := ⟨_, rfl⟩
  rw [← hL] at H1 p1 hc1 hl ⊢

  have HQ : Hid (∀ w9 : World, Keep (fun x => w.heap.size ≤ x) w w9 → w9.cell? ⟨q, 4, none⟩ = some (.slice a1 L.length c1)) := Lib.hid (fun w9 k => (k.cell hqs (by omega) _).trans p1)
  clear h hL p1
  have p1 := HQ.out w (Keep.refl _ _)
  go_enter Tryz.func167, Tryz.ntmps167
  go_wp2
  go_loopw [5, 6] (fun lv iv  wr => PlR (fun x : ThM => x.place == 1 && x.room == r) L w lv iv wr) (fun _ iv  _ => L.length - (intOf iv).toNat)
  case atStart => exact ⟨0, by omega, rfl, Row.nil _ _ _, fun b hb => by simp [Value.ownBlock] at hb, Keep.refl _ _⟩
  case round =>
    obtain ⟨k, hk, rfl, hrow, hown, hK⟩ := hrel.ex
    have HROW := Lib.hid hrow; have HOWN := Lib.hid hown; have HK := Lib.hid hK
    clear hrow hown hrel
    have p2 := HQ.out wr hK
    clear hK
    obtain ⟨va, vc, rfl, hvc1, hvc2⟩ := HROW.out.slice
    have hpl : (places (fun x : ThM => x.place == 1 && x.room == r) 0 (L.take k)).length ≤ 1000000 := by
      have := places_len (fun x : ThM => x.place == 1 && x.room == r) (L.take k) 0
      rw [List.length_take] at this; omega
    by_cases hlt : k < L.length
    · have hd1 : decide (k < L.length) = true := by simpa using hlt
      obtain ⟨x, hx⟩ : ∃ x, L[k]? = some x := ⟨_, List.getElem?_eq_getElem hlt⟩
      obtain ⟨g, off, rfl, hg⟩ := H1.out.some hx
      have q1 : wr.cell? ⟨g, off + k * 5 + 2, none⟩ = some (.int .i64 x.place) := (HK.out.cell hg (by omega) _).trans (H1.out.cell thC_len k 2 x hx (by omega))
      have q2 : wr.cell? ⟨g, off + k * 5 + 3, none⟩ = some (.int .i64 x.room) := (HK.out.cell hg (by omega) _).trans (H1.out.cell thC_len k 3 x hx (by omega))
      have HX := Lib.hid hx
      clear hx
      rcases int_beq (a := x.place) (b := 1) with ⟨b1, -⟩ | ⟨b1, -⟩
      · rcases int_beq (a := x.room) (b := r) with ⟨b2, -⟩ | ⟨b2, -⟩
        · have HP : Hid (places (fun x : ThM => x.place == 1 && x.room == r) 0 (L.take (k + 1)) = places (fun x : ThM => x.place == 1 && x.room == r) 0 (L.take k) ++ [(k : Int)]) := Lib.hid (by rw [places_take HX.out, if_pos (by simp [b1, b2])])
          go_wp2_with (at_builtin; go_loud (refine wpList_append_row _ rfl (.tmp 37) (.tmp 39) rfl Tryz.underlying60 hi0 hz0 hz1 hz2 rfl rfl (HROW.out.alloc _) rfl (Src.lit Tryz.underlying60 #[.int .i64 (k : Int)] _ 1 1 rfl rfl (by simp [Value.oneCell'])) (by unfold maxLen; omega) (by omega) ?_))
          intro v7 w2 hr2 hk2 hb2 _
          have HR2 : Hid (Row w2 3 1 v7 (places (fun x : ThM => x.place == 1 && x.room == r) 0 (L.take (k + 1))).length (icells (places (fun x : ThM => x.place == 1 && x.room == r) 0 (L.take (k + 1))))) := Lib.hid (by rw [HP.out, icells_append, List.length_append]; exact hr2)
          have HOW2 : Hid (∀ b, v7.ownBlock = some b → w.heap.size ≤ b) := Lib.hid (fun b hb => by
            have hks := HK.out.size
            rcases hb2 b hb with h | h
            · exact HOWN.out b h
            · have h1 := h.1; first | omega | (simp at h1; omega))
          have HK2 : Hid (Keep (fun x => w.heap.size ≤ x) w w2) := Lib.hid ((HK.out.alloc _).trans hk2 (fun b hb => .inl (HOWN.out b hb)))
          clear hr2 hk2 hb2
          go_wp2
          go_roundw
          case rel => exact ⟨k + 1, by omega, by go_num, HR2.out, HOW2.out, HK2.out⟩
          case measure => simp [intOf]; omega
        · have HP : Hid (places (fun x : ThM => x.place == 1 && x.room == r) 0 (L.take (k + 1)) = places (fun x : ThM => x.place == 1 && x.room == r) 0 (L.take k)) := Lib.hid (by rw [places_take HX.out, if_neg (by simp [b1, b2]), List.append_nil])
          go_wp2
          go_roundw
          case rel => exact ⟨k + 1, by omega, by go_num, by rw [HP.out]; exact HROW.out, HOWN.out, HK.out⟩
          case measure => simp [intOf]; omega
      · have HP : Hid (places (fun x : ThM => x.place == 1 && x.room == r) 0 (L.take (k + 1)) = places (fun x : ThM => x.place == 1 && x.room == r) 0 (L.take k)) := Lib.hid (by rw [places_take HX.out, if_neg (by simp [b1]), List.append_nil])
        go_wp2
        go_roundw
        case rel => exact ⟨k + 1, by omega, by go_num, by rw [HP.out]; exact HROW.out, HOWN.out, HK.out⟩
        case measure => simp [intOf]; omega
    · have hd1 : decide (k < L.length) = false := by rw [decide_eq_false_iff_not]; omega
      have hke : L.take k = L := List.take_of_length_le (by omega)
      have HFIN : Hid (Row wr 3 1 (.slice va (places (fun x : ThM => x.place == 1 && x.room == r) 0 (L.take k)).length vc) (places (fun x : ThM => x.place == 1 && x.room == r) 0 L).length (icells (places (fun x : ThM => x.place == 1 && x.room == r) 0 L))) := Lib.hid (by
        have h := HROW.out
        rw [hke] at h ⊢
        exact h)
      clear hke
      go_wp2
      go_ret
      exact ⟨_, rfl, HFIN.out, HOWN.out, HK.out.mono (fun i hi h => by omega)⟩

set_option maxHeartbeats 2000000 in
theorem refWho_any {N : Nat → Prop} {w : World} {q : Nat} {W : WM} (h : WAt N w q W) (hl : W.chars.length ≤ 1000000) (r : Int) : Calls Tryz.prog 165 #[.pointer (some ⟨q, 0, none⟩), .int .i64 r] w (PlA (places (fun x => x.on && x.room == r) 0 W.chars) w) := by
  obtain ⟨i0, hi0, hz0, hz1, hz2⟩ := info_parts Tryz.infoI
  obtain ⟨v1, v2, v3, v4, v5, v6, cr, hr, h⟩ := h
  have p1 : w.cell? ⟨q, 3, none⟩ = some v1 := (cell_of_row w q 3 _ _ _ h.blk).trans rfl
  have H1 := Lib.hid h.chars
  obtain ⟨a1, c1, rfl, hc1, hc2⟩ := H1.out.slice
  unfold maxLen at hc2
  have hqs := lt_of_block h.blk
  have hcm := h.charm
  obtain ⟨L, hL⟩ : ∃ L, L = cr := ⟨_, rfl⟩
  rw [← hL] at hcm H1 p1 hc1
  rw [← hcm] at hl ⊢
  rw [List.length_map] at hl
  rw [places_map]
  have HQ : Hid (∀ w9 : World, Keep (fun x => w.heap.size ≤ x) w w9 → w9.cell? ⟨q, 3, none⟩ = some (.slice a1 L.length c1)) := Lib.hid (fun w9 k => (k.cell hqs (by omega) _).trans p1)
  clear h hL p1 hcm
  have p1 := HQ.out w (Keep.refl _ _)
  go_enter Tryz.func165, Tryz.ntmps165
  go_wp2
  go_loopw [5, 6] (fun lv iv  wr => PlR (fun x : ChM × Value => x.1.on && x.1.room == r) L w lv iv wr) (fun _ iv  _ => L.length - (intOf iv).toNat)
  case atStart => exact ⟨0, by omega, rfl, Row.nil _ _ _, fun b hb => by simp [Value.ownBlock] at hb, Keep.refl _ _⟩
  case round =>
    obtain ⟨k, hk, rfl, hrow, hown, hK⟩ := hrel.ex
    have HROW := Lib.hid hrow; have HOWN := Lib.hid hown; have HK := Lib.hid hK
    clear hrow hown hrel
    have p2 := HQ.out wr hK
    clear hK
    obtain ⟨va, vc, rfl, hvc1, hvc2⟩ := HROW.out.slice
    have hpl : (places (fun x : ChM × Value => x.1.on && x.1.room == r) 0 (L.take k)).length ≤ 1000000 := by
      have := places_len (fun x : ChM × Value => x.1.on && x.1.room == r) (L.take k) 0
      rw [List.length_take] at this; omega
    by_cases hlt : k < L.length
    · have hd1 : decide (k < L.length) = true := by simpa using hlt
      obtain ⟨x, hx⟩ : ∃ x, L[k]? = some x := ⟨_, List.getElem?_eq_getElem hlt⟩
      obtain ⟨g, off, rfl, hg⟩ := H1.out.some hx
      have q1 : wr.cell? ⟨g, off + k * 10 + 2, none⟩ = some (.bool x.1.on) := (HK.out.cell hg (by omega) _).trans (H1.out.cell chC_len k 2 x hx (by omega))
      have q2 : wr.cell? ⟨g, off + k * 10 + 3, none⟩ = some (.int .i64 x.1.room) := (HK.out.cell hg (by omega) _).trans (H1.out.cell chC_len k 3 x hx (by omega))
      have HX := Lib.hid hx
      clear hx
      cases hon : x.1.on
      · rw [hon] at q1
        have HP : Hid (places (fun x : ChM × Value => x.1.on && x.1.room == r) 0 (L.take (k + 1)) = places (fun x : ChM × Value => x.1.on && x.1.room == r) 0 (L.take k)) := Lib.hid (by rw [places_take HX.out, if_neg (by simp [hon]), List.append_nil])
        clear hon
        go_wp2
        go_roundw
        case rel => exact ⟨k + 1, by omega, by go_num, by rw [HP.out]; exact HROW.out, HOWN.out, HK.out⟩
        case measure => simp [intOf]; omega
      · rw [hon] at q1
        rcases int_beq (a := x.1.room) (b := r) with ⟨b1, -⟩ | ⟨b1, -⟩
        · have HP : Hid (places (fun x : ChM × Value => x.1.on && x.1.room == r) 0 (L.take (k + 1)) = places (fun x : ChM × Value => x.1.on && x.1.room == r) 0 (L.take k) ++ [(k : Int)]) := Lib.hid (by rw [places_take HX.out, if_pos (by simp [hon, b1])])
          clear hon
          go_wp2_with (at_builtin; go_loud (refine wpList_append_row _ rfl (.tmp 36) (.tmp 38) rfl Tryz.underlying60 hi0 hz0 hz1 hz2 rfl rfl (HROW.out.alloc _) rfl (Src.lit Tryz.underlying60 #[.int .i64 (k : Int)] _ 1 1 rfl rfl (by simp [Value.oneCell'])) (by unfold maxLen; omega) (by omega) ?_))
          intro v7 w2 hr2 hk2 hb2 _
          have HR2 : Hid (Row w2 3 1 v7 (places (fun x : ChM × Value => x.1.on && x.1.room == r) 0 (L.take (k + 1))).length (icells (places (fun x : ChM × Value => x.1.on && x.1.room == r) 0 (L.take (k + 1))))) := Lib.hid (by rw [HP.out, icells_append, List.length_append]; exact hr2)
          have HOW2 : Hid (∀ b, v7.ownBlock = some b → w.heap.size ≤ b) := Lib.hid (fun b hb => by
            have hks := HK.out.size
            rcases hb2 b hb with h | h
            · exact HOWN.out b h
            · have h1 := h.1; first | omega | (simp at h1; omega))
          have HK2 : Hid (Keep (fun x => w.heap.size ≤ x) w w2) := Lib.hid ((HK.out.alloc _).trans hk2 (fun b hb => .inl (HOWN.out b hb)))
          clear hr2 hk2 hb2
          go_wp2
          go_roundw
          case rel => exact ⟨k + 1, by omega, by go_num, HR2.out, HOW2.out, HK2.out⟩
          case measure => simp [intOf]; omega
        · have HP : Hid (places (fun x : ChM × Value => x.1.on && x.1.room == r) 0 (L.take (k + 1)) = places (fun x : ChM × Value => x.1.on && x.1.room == r) 0 (L.take k)) := Lib.hid (by rw [places_take HX.out, if_neg (by simp [hon, b1]), List.append_nil])
          clear hon
          go_wp2
          go_roundw
          case rel => exact ⟨k + 1, by omega, by go_num, by rw [HP.out]; exact HROW.out, HOWN.out, HK.out⟩
          case measure => simp [intOf]; omega
    · have hd1 : decide (k < L.length) = false := by rw [decide_eq_false_iff_not]; omega
      have hke : L.take k = L := List.take_of_length_le (by omega)
      have HFIN : Hid (Row wr 3 1 (.slice va (places (fun x : ChM × Value => x.1.on && x.1.room == r) 0 (L.take k)).length vc) (places (fun x : ChM × Value => x.1.on && x.1.room == r) 0 L).length (icells (places (fun x : ChM × Value => x.1.on && x.1.room == r) 0 L))) := Lib.hid (by
        have h := HROW.out
        rw [hke] at h ⊢
        exact h)
      clear hke
      go_wp2
      go_ret
      exact ⟨_, rfl, HFIN.out, HOWN.out, HK.out.mono (fun i hi h => by omega)⟩

set_option maxHeartbeats 2000000 in
theorem refOf_any {N : Nat → Prop} {w : World} {q : Nat} {W : WM} (h : WAt N w q W) (hl : W.things.length ≤ 1000000) (s : ByteArray) (pl : Int) : Calls Tryz.prog 328 #[.pointer (some ⟨q, 0, none⟩), .string s, .int .i64 pl] w (PlA (places (fun x => (x.place == 2 || x.place == 3) && x.place == pl && decide (x.who = s)) 0 W.things) w) := by
  obtain ⟨i0, hi0, hz0, hz1, hz2⟩ := info_parts Tryz.infoI
  obtain ⟨v1, v2, v3, v4, v5, v6, cr, hr, h⟩ := h
  have p1 : w.cell? ⟨q, 4, none⟩ = some v2 := (cell_of_row w q 4 _ _ _ h.blk).trans rfl
  have H1 := Lib.hid h.things
  obtain ⟨a1, c1, rfl, hc1, hc2⟩ := H1.out.slice
  unfold maxLen at hc2
  have hqs := lt_of_block h.blk
  obtain ⟨L, hL⟩ : ∃ L, L = W.things := ⟨_, rfl⟩
  rw [← hL] at H1 p1 hc1 hl ⊢

  have HQ : Hid (∀ w9 : World, Keep (fun x => w.heap.size ≤ x) w w9 → w9.cell? ⟨q, 4, none⟩ = some (.slice a1 L.length c1)) := Lib.hid (fun w9 k => (k.cell hqs (by omega) _).trans p1)
  clear h hL p1
  have p1 := HQ.out w (Keep.refl _ _)
  go_enter Tryz.func328, Tryz.ntmps328
  go_wp2
  go_loopw [7, 8, 9] (fun lv iv _ wr => PlR (fun x : ThM => (x.place == 2 || x.place == 3) && x.place == pl && decide (x.who = s)) L w lv iv wr) (fun _ iv _ _ => L.length - (intOf iv).toNat)
  case atStart => exact ⟨0, by omega, rfl, Row.nil _ _ _, fun b hb => by simp [Value.ownBlock] at hb, Keep.refl _ _⟩
  case round =>
    obtain ⟨k, hk, rfl, hrow, hown, hK⟩ := hrel.ex
    have HROW := Lib.hid hrow; have HOWN := Lib.hid hown; have HK := Lib.hid hK
    clear hrow hown hrel
    have p2 := HQ.out wr hK
    clear hK
    obtain ⟨va, vc, rfl, hvc1, hvc2⟩ := HROW.out.slice
    have hpl : (places (fun x : ThM => (x.place == 2 || x.place == 3) && x.place == pl && decide (x.who = s)) 0 (L.take k)).length ≤ 1000000 := by
      have := places_len (fun x : ThM => (x.place == 2 || x.place == 3) && x.place == pl && decide (x.who = s)) (L.take k) 0
      rw [List.length_take] at this; omega
    by_cases hlt : k < L.length
    · have hd1 : decide (k < L.length) = true := by simpa using hlt
      obtain ⟨x, hx⟩ : ∃ x, L[k]? = some x := ⟨_, List.getElem?_eq_getElem hlt⟩
      obtain ⟨g, off, rfl, hg⟩ := H1.out.some hx
      have q1 : wr.cell? ⟨g, off + k * 5 + 2, none⟩ = some (.int .i64 x.place) := (HK.out.cell hg (by omega) _).trans (H1.out.cell thC_len k 2 x hx (by omega))
      have q2 : wr.cell? ⟨g, off + k * 5 + 4, none⟩ = some (.string x.who) := (HK.out.cell hg (by omega) _).trans (H1.out.cell thC_len k 4 x hx (by omega))
      have HX := Lib.hid hx
      clear hx
      rcases int_beq (a := x.place) (b := pl) with ⟨b1, -⟩ | ⟨b1, -⟩
      · rcases str_cases x.who s with ⟨b2, hs⟩ | ⟨b2, hs⟩
        · rcases int_beq (a := x.place) (b := 2) with ⟨b3, -⟩ | ⟨b3, -⟩
          · have HP : Hid (places (fun x : ThM => (x.place == 2 || x.place == 3) && x.place == pl && decide (x.who = s)) 0 (L.take (k + 1)) = places (fun x : ThM => (x.place == 2 || x.place == 3) && x.place == pl && decide (x.who = s)) 0 (L.take k) ++ [(k : Int)]) := Lib.hid (by rw [places_take HX.out, if_pos (by simp [b1, hs, b3])])
            clear hs
            go_wp2_with (at_builtin; go_loud (refine wpList_append_row _ rfl (.tmp 50) (.tmp 52) rfl Tryz.underlying60 hi0 hz0 hz1 hz2 rfl rfl (HROW.out.alloc _) rfl (Src.lit Tryz.underlying60 #[.int .i64 (k : Int)] _ 1 1 rfl rfl (by simp [Value.oneCell'])) (by unfold maxLen; omega) (by omega) ?_))
            intro v7 w2 hr2 hk2 hb2 _
            have HR2 : Hid (Row w2 3 1 v7 (places (fun x : ThM => (x.place == 2 || x.place == 3) && x.place == pl && decide (x.who = s)) 0 (L.take (k + 1))).length (icells (places (fun x : ThM => (x.place == 2 || x.place == 3) && x.place == pl && decide (x.who = s)) 0 (L.take (k + 1))))) := Lib.hid (by rw [HP.out, icells_append, List.length_append]; exact hr2)
            have HOW2 : Hid (∀ b, v7.ownBlock = some b → w.heap.size ≤ b) := Lib.hid (fun b hb => by
              have hks := HK.out.size
              rcases hb2 b hb with h | h
              · exact HOWN.out b h
              · have h1 := h.1; first | omega | (simp at h1; omega))
            have HK2 : Hid (Keep (fun x => w.heap.size ≤ x) w w2) := Lib.hid ((HK.out.alloc _).trans hk2 (fun b hb => .inl (HOWN.out b hb)))
            clear hr2 hk2 hb2
            go_wp2
            go_roundw
            case rel => exact ⟨k + 1, by omega, by go_num, HR2.out, HOW2.out, HK2.out⟩
            case measure => simp [intOf]; omega
          · rcases int_beq (a := x.place) (b := 3) with ⟨b4, -⟩ | ⟨b4, -⟩
            · have HP : Hid (places (fun x : ThM => (x.place == 2 || x.place == 3) && x.place == pl && decide (x.who = s)) 0 (L.take (k + 1)) = places (fun x : ThM => (x.place == 2 || x.place == 3) && x.place == pl && decide (x.who = s)) 0 (L.take k) ++ [(k : Int)]) := Lib.hid (by rw [places_take HX.out, if_pos (by simp [b1, hs, b3, b4])])
              clear hs
              go_wp2_with (at_builtin; go_loud (refine wpList_append_row _ rfl (.tmp 50) (.tmp 52) rfl Tryz.underlying60 hi0 hz0 hz1 hz2 rfl rfl (HROW.out.alloc _) rfl (Src.lit Tryz.underlying60 #[.int .i64 (k : Int)] _ 1 1 rfl rfl (by simp [Value.oneCell'])) (by unfold maxLen; omega) (by omega) ?_))
              intro v7 w2 hr2 hk2 hb2 _
              have HR2 : Hid (Row w2 3 1 v7 (places (fun x : ThM => (x.place == 2 || x.place == 3) && x.place == pl && decide (x.who = s)) 0 (L.take (k + 1))).length (icells (places (fun x : ThM => (x.place == 2 || x.place == 3) && x.place == pl && decide (x.who = s)) 0 (L.take (k + 1))))) := Lib.hid (by rw [HP.out, icells_append, List.length_append]; exact hr2)
              have HOW2 : Hid (∀ b, v7.ownBlock = some b → w.heap.size ≤ b) := Lib.hid (fun b hb => by
                have hks := HK.out.size
                rcases hb2 b hb with h | h
                · exact HOWN.out b h
                · have h1 := h.1; first | omega | (simp at h1; omega))
              have HK2 : Hid (Keep (fun x => w.heap.size ≤ x) w w2) := Lib.hid ((HK.out.alloc _).trans hk2 (fun b hb => .inl (HOWN.out b hb)))
              clear hr2 hk2 hb2
              go_wp2
              go_roundw
              case rel => exact ⟨k + 1, by omega, by go_num, HR2.out, HOW2.out, HK2.out⟩
              case measure => simp [intOf]; omega
            · have HP : Hid (places (fun x : ThM => (x.place == 2 || x.place == 3) && x.place == pl && decide (x.who = s)) 0 (L.take (k + 1)) = places (fun x : ThM => (x.place == 2 || x.place == 3) && x.place == pl && decide (x.who = s)) 0 (L.take k)) := Lib.hid (by rw [places_take HX.out, if_neg (by simp [b3, b4]), List.append_nil])
              clear hs
              go_wp2
              go_roundw
              case rel => exact ⟨k + 1, by omega, by go_num, by rw [HP.out]; exact HROW.out, HOWN.out, HK.out⟩
              case measure => simp [intOf]; omega
        · rcases int_beq (a := x.place) (b := 2) with ⟨b3, -⟩ | ⟨b3, -⟩
          · have HP : Hid (places (fun x : ThM => (x.place == 2 || x.place == 3) && x.place == pl && decide (x.who = s)) 0 (L.take (k + 1)) = places (fun x : ThM => (x.place == 2 || x.place == 3) && x.place == pl && decide (x.who = s)) 0 (L.take k)) := Lib.hid (by rw [places_take HX.out, if_neg (by simp [b1, hs, b3]), List.append_nil])
            clear hs
            go_wp2
            go_roundw
            case rel => exact ⟨k + 1, by omega, by go_num, by rw [HP.out]; exact HROW.out, HOWN.out, HK.out⟩
            case measure => simp [intOf]; omega
          · rcases int_beq (a := x.place) (b := 3) with ⟨b4, -⟩ | ⟨b4, -⟩
            · have HP : Hid (places (fun x : ThM => (x.place == 2 || x.place == 3) && x.place == pl && decide (x.who = s)) 0 (L.take (k + 1)) = places (fun x : ThM => (x.place == 2 || x.place == 3) && x.place == pl && decide (x.who = s)) 0 (L.take k)) := Lib.hid (by rw [places_take HX.out, if_neg (by simp [b1, hs, b3, b4]), List.append_nil])
              clear hs
              go_wp2
              go_roundw
              case rel => exact ⟨k + 1, by omega, by go_num, by rw [HP.out]; exact HROW.out, HOWN.out, HK.out⟩
              case measure => simp [intOf]; omega
            · have HP : Hid (places (fun x : ThM => (x.place == 2 || x.place == 3) && x.place == pl && decide (x.who = s)) 0 (L.take (k + 1)) = places (fun x : ThM => (x.place == 2 || x.place == 3) && x.place == pl && decide (x.who = s)) 0 (L.take k)) := Lib.hid (by rw [places_take HX.out, if_neg (by simp [b3, b4]), List.append_nil])
              clear hs
              go_wp2
              go_roundw
              case rel => exact ⟨k + 1, by omega, by go_num, by rw [HP.out]; exact HROW.out, HOWN.out, HK.out⟩
              case measure => simp [intOf]; omega
      · rcases int_beq (a := x.place) (b := 2) with ⟨b3, -⟩ | ⟨b3, -⟩
        · have HP : Hid (places (fun x : ThM => (x.place == 2 || x.place == 3) && x.place == pl && decide (x.who = s)) 0 (L.take (k + 1)) = places (fun x : ThM => (x.place == 2 || x.place == 3) && x.place == pl && decide (x.who = s)) 0 (L.take k)) := Lib.hid (by rw [places_take HX.out, if_neg (by simp [b1]), List.append_nil])
          go_wp2
          go_roundw
          case rel => exact ⟨k + 1, by omega, by go_num, by rw [HP.out]; exact HROW.out, HOWN.out, HK.out⟩
          case measure => simp [intOf]; omega
        · rcases int_beq (a := x.place) (b := 3) with ⟨b4, -⟩ | ⟨b4, -⟩
          · have HP : Hid (places (fun x : ThM => (x.place == 2 || x.place == 3) && x.place == pl && decide (x.who = s)) 0 (L.take (k + 1)) = places (fun x : ThM => (x.place == 2 || x.place == 3) && x.place == pl && decide (x.who = s)) 0 (L.take k)) := Lib.hid (by rw [places_take HX.out, if_neg (by simp [b1]), List.append_nil])
            go_wp2
            go_roundw
            case rel => exact ⟨k + 1, by omega, by go_num, by rw [HP.out]; exact HROW.out, HOWN.out, HK.out⟩
            case measure => simp [intOf]; omega
          · have HP : Hid (places (fun x : ThM => (x.place == 2 || x.place == 3) && x.place == pl && decide (x.who = s)) 0 (L.take (k + 1)) = places (fun x : ThM => (x.place == 2 || x.place == 3) && x.place == pl && decide (x.who = s)) 0 (L.take k)) := Lib.hid (by rw [places_take HX.out, if_neg (by simp [b3, b4]), List.append_nil])
            go_wp2
            go_roundw
            case rel => exact ⟨k + 1, by omega, by go_num, by rw [HP.out]; exact HROW.out, HOWN.out, HK.out⟩
            case measure => simp [intOf]; omega
    · have hd1 : decide (k < L.length) = false := by rw [decide_eq_false_iff_not]; omega
      have hke : L.take k = L := List.take_of_length_le (by omega)
      have HFIN : Hid (Row wr 3 1 (.slice va (places (fun x : ThM => (x.place == 2 || x.place == 3) && x.place == pl && decide (x.who = s)) 0 (L.take k)).length vc) (places (fun x : ThM => (x.place == 2 || x.place == 3) && x.place == pl && decide (x.who = s)) 0 L).length (icells (places (fun x : ThM => (x.place == 2 || x.place == 3) && x.place == pl && decide (x.who = s)) 0 L))) := Lib.hid (by
        have h := HROW.out
        rw [hke] at h ⊢
        exact h)
      clear hke
      go_wp2
      go_ret
      exact ⟨_, rfl, HFIN.out, HOWN.out, HK.out.mono (fun i hi h => by omega)⟩

end Go.Proofs.YtheaghgockafmaaGreat.Wd
