/- The numbers that a new world has given out. -/
import Derived.Test.YtheaghgockafmaaGreatEaA
import Derived.Test.YtheaghgockafmaaGreatEbB
import Derived.Test.YtheaghgockafmaaGreatLay16
namespace Go.Proofs.YtheaghgockafmaaGreat.Wd
open Go.RowKit Go.Maps Go.Proofs.YtheaghgockafmaaGreat Go.Proofs.YtheaghgockafmaaGreat.Lin Go.Sort
set_option maxRecDepth 100000

theorem Tryz.infoL : (Tryz.prog.info? 2).map (fun i => (i.zero, i.size, i.bytes)) = some (some (.int .i64 0), 1, 8) := by kernel_rfl
theorem row_holdsL {w : World} {g off n cap : Nat} {l : List Int} (h : Row w 2 1 (.slice (some ⟨g, off, none⟩) n cap) n (icells l)) : Holds (Value.int .i64) w g off l.toArray := by
  intro j hj
  have hn : n = l.length := by have := h.1; rw [icells_length] at this; omega
  have hj' : j < l.length := by simpa using hj
  obtain ⟨_, _, hv, hc, _⟩ := h.slice
  simp only [Value.slice.injEq] at hv
  obtain ⟨_, _, rfl⟩ := hv
  refine ⟨?_, (h.there j (by omega)).2⟩
  rw [h.cellAt j (by omega), icells_get (List.getElem?_eq_getElem hj'), getElem!_pos _ _ (by simpa using hj)]
  simp
theorem row_sortedL {w : World} {g off n cap m : Nat} {l l' : List Int} {os : Array Obj} (h : Row w 2 1 (.slice (some ⟨g, off, none⟩) n cap) n (icells l)) (hl : l'.length = l.length) :
    Row (grow (putRow (Value.int .i64) (Sort.ahead w m) g off l'.toArray) os) 2 1 (.slice (some ⟨g, off, none⟩) n cap) n (icells l') ∧ Keep (fun b => b = g) w (grow (putRow (Value.int .i64) (Sort.ahead w m) g off l'.toArray) os) := by
  have hn : n = l.length := by have := h.1; rw [icells_length] at this; omega
  have hsz : ∀ W : World, (putRow (Value.int .i64) W g off l'.toArray).heap.size = W.heap.size := fun W => by simp [putRow, mapBlock]
  have hk : Keep (fun b => b = g) w (grow (putRow (Value.int .i64) (Sort.ahead w m) g off l'.toArray) os) := by
    refine ⟨rfl, rfl, rfl, ?_, fun i hi hn => ?_⟩
    · rw [size_grow, hsz]; exact Nat.le_add_right _ _
    · rw [heap_grow_old _ _ (by rw [hsz]; exact hi)]
      unfold putRow mapBlock
      rw [Array.getElem?_modify, if_neg (fun e => hn e.symm)]
      rfl
  refine ⟨?_, hk⟩
  rcases h.2 with ⟨h', _⟩ | ⟨g', off', cap', cur, lo, hi, h', hg, hnc, hcm, hs, hf, htake⟩
  · simp at h'
  · simp only [Value.slice.injEq, Option.some.injEq, Addr.mk.injEq, and_true, true_and] at h'
    obtain ⟨⟨rfl, rfl⟩, rfl⟩ := h'
    have hg2 : (grow (putRow (Value.int .i64) (Sort.ahead w m) g off l'.toArray) os).heap[g]? = some (.cells (putCells (Value.int .i64) off l'.toArray cur) 2 (lo, hi)) := by
      rw [heap_grow_old _ _ (by rw [hsz]; exact lt_of_block hg)]
      unfold putRow mapBlock
      have : (Sort.ahead w m).heap = w.heap := rfl
      rw [this, Array.getElem?_modify, if_pos rfl, hg]
      rfl
    refine ⟨by rw [icells_length]; omega, .inr ⟨g, off, cap, _, lo, hi, rfl, hg2, hnc, hcm, by simpa [putCells] using hs, hf, ?_⟩⟩
    refine List.ext_getElem? fun j => ?_
    by_cases hj : j < l'.length
    · have hlt : off + j < cur.size := by omega
      rw [List.getElem?_take, if_pos (by omega), List.getElem?_drop, icells_get (List.getElem?_eq_getElem hj)]
      simp only [putCells, Array.getElem?_toList, Array.getElem?_mapIdx, Array.getElem?_eq_getElem hlt, Option.map_some]
      rw [if_pos ⟨by omega, by simp; omega⟩, Nat.add_sub_cancel_left, getElem!_pos _ _ (by simpa using hj)]
      simp
    · rw [List.getElem?_eq_none (by rw [List.length_take]; omega), List.getElem?_eq_none (by rw [icells_length]; omega)]
theorem sortLs_any {w : World} {v : Value} {l : List Int} (h : Row w 2 1 v l.length (icells l)) (hl : l.length ≤ 1000000) :
    Calls Tryz.prog 123 #[v] w fun e w' => e = .returned (.tuple #[]) ∧ Row w' 2 1 v l.length (icells (sortI l)) ∧ Keep (fun b => v.ownBlock = some b) w w' := by
  obtain ⟨a, cap, rfl, hc1, hc2⟩ := h.slice
  rcases Nat.eq_zero_or_pos l.length with h0 | h0
  · have hL : l = [] := List.length_eq_zero_iff.1 h0
    subst hL
    have hcon := AnyM.slices_Sort_int_none Tryz.sortL a cap w
    change Calls Tryz.prog 123 _ _ _ at hcon
    refine hcon.mono ?_
    rintro e w9 ⟨rfl, rfl⟩
    exact ⟨rfl, by rw [show sortI [] = [] by simp [sortI]]; exact h, Keep.refl _ _⟩
  · obtain ⟨g, off, c', hv, _⟩ := h.full h0
    simp only [Value.slice.injEq] at hv
    obtain ⟨rfl, _, rfl⟩ := hv
    have hcon := AnyM.slices_Sort_int Tryz.sortL g off cap l w (row_holdsL h) (h.lt (k := g) rfl) (by omega)
    change Calls Tryz.prog 123 _ _ _ at hcon
    refine hcon.mono ?_
    rintro e w9 ⟨rfl, n, os, rfl⟩
    obtain ⟨h1, h2⟩ := row_sortedL (m := n) (os := os) (l' := sortI l) h (sortI_len l)
    exact ⟨rfl, h1, h2.mono (fun b _ hb => by rw [hb]; rfl)⟩
theorem sortI_rises {l : List Int} (h : l.Pairwise (fun a b => a < b)) : sortI l = l := by
  unfold sortI
  exact List.mergeSort_of_pairwise (h.imp (fun {a b} hab => by rw [decide_eq_true_eq]; omega))

def idsL (L : List MoM) : List Int := L.map (fun x => x.id)
theorem idsL_take {L : List MoM} {k : Nat} {x : MoM} (h : L[k]? = some x) : icells (idsL (L.take (k + 1))) = icells (idsL (L.take k)) ++ [.int .i64 x.id] := by
  unfold idsL icells
  rw [List.take_add_one, h]
  simp
structure IdR (L : List MoM) (w0 : World) (v iv : Value) (wr : World) : Prop where
  ex : ∃ k : Nat, k ≤ L.length ∧ iv = .int .i64 (k : Int) ∧ Row wr 2 1 v k (icells (idsL (L.take k))) ∧ (∀ b, v.ownBlock = some b → w0.heap.size ≤ b) ∧ Keep (fun _ => False) w0 wr

theorem idsNilThing_any {w : World} {a : Option Addr} {c g : Nat} {lb : Array Value} : Calls Tryz.prog 120 #[.slice a 0 c, .func (.func g) #[] lb] w fun e w' => e = .returned (.slice none 0 0) ∧ Keep (fun _ => False) w w' := by
  go_enter Tryz.func120, Tryz.ntmps120
  go_wp2
  go_loopw [5, 10] (fun v iv wr => v = .slice none 0 0 ∧ iv = .int .i64 0 ∧ Keep (fun _ => False) w wr) (fun _ iv _ => 0)
  case atStart => exact ⟨rfl, rfl, Keep.refl _ _⟩
  case round =>
    obtain ⟨rfl, rfl, hK⟩ := hrel
    go_wp2
    go_ret
    exact ⟨rfl, hK⟩
theorem idsNilLot_any {w : World} {a : Option Addr} {c g : Nat} {lb : Array Value} : Calls Tryz.prog 122 #[.slice a 0 c, .func (.func g) #[] lb] w fun e w' => e = .returned (.slice none 0 0) ∧ Keep (fun _ => False) w w' := by
  go_enter Tryz.func122, Tryz.ntmps122
  go_wp2
  go_loopw [5, 10] (fun v iv wr => v = .slice none 0 0 ∧ iv = .int .i64 0 ∧ Keep (fun _ => False) w wr) (fun _ iv _ => 0)
  case atStart => exact ⟨rfl, rfl, Keep.refl _ _⟩
  case round =>
    obtain ⟨rfl, rfl, hK⟩ := hrel
    go_wp2
    go_ret
    exact ⟨rfl, hK⟩
set_option maxHeartbeats 4000000 in
theorem idsMob_any {w : World} {v : Value} {L : List MoM} (h : Rec w 76 moC 4 v L) (hl : L.length ≤ 1000) :
    Calls Tryz.prog 121 #[v, .func (.func 114) #[] #[]] w fun e w' => ∃ v', e = .returned v' ∧ Row w' 2 1 v' L.length (icells (idsL L)) ∧ (∀ b, v'.ownBlock = some b → w.heap.size ≤ b) ∧ Keep (fun _ => False) w w' := by
  obtain ⟨i0, hi0, hz0, hz1, hz2⟩ := info_parts Tryz.infoL
  obtain ⟨a, cap, rfl, hc1, hc2⟩ := h.slice
  unfold maxLen at hc2
  have H := Lib.hid h
  clear h
  go_enter Tryz.func121, Tryz.ntmps121
  go_wp2
  go_loopw [5, 10] (fun v iv wr => IdR L w v iv wr) (fun _ iv _ => L.length - (intOf iv).toNat)
  case atStart => exact ⟨0, by omega, rfl, Row.nil _ _ _, fun b hb => by simp [Value.ownBlock] at hb, Keep.refl _ _⟩
  case round =>
    obtain ⟨k, hk, rfl, hrow, hown, hK⟩ := hrel.ex
    have HROW := Lib.hid hrow; have HOWN := Lib.hid hown; have HK := Lib.hid hK
    clear hrow hown hrel hK
    obtain ⟨va, vc, rfl, hvc1, hvc2⟩ := HROW.out.slice
    by_cases hlt : k < L.length
    · have hd1 : decide (k < L.length) = true := by simpa using hlt
      obtain ⟨x, hx⟩ : ∃ x, L[k]? = some x := ⟨_, List.getElem?_eq_getElem hlt⟩
      have hr9 := H.out.keep HK.out (fun _ _ e => e)
      obtain ⟨g, off, rfl, hg⟩ := hr9.some hx
      have HMP := Lib.hid (hr9.range moC_len k x hx)
      have q0 : wr.cell? ⟨g, off + k * 4, none⟩ = some (.int .i64 x.id) := by simpa using HMP.out 0 _ rfl
      have q1 : wr.cell? ⟨g, off + k * 4 + 1, none⟩ = some (.int .i64 x.proto) := by simpa using HMP.out 1 _ rfl
      have q2 : wr.cell? ⟨g, off + k * 4 + 2, none⟩ = some (.int .i64 x.room) := by simpa using HMP.out 2 _ rfl
      have q3 : wr.cell? ⟨g, off + k * 4 + 3, none⟩ = some (.int .i64 x.hp) := by simpa using HMP.out 3 _ rfl
      have HTK := Lib.hid (idsL_take hx)
      clear hx hr9 HMP
      have HCM : Hid (∀ w9 : World, Calls Tryz.prog 114 #[.agg #[.int .i64 x.id, .int .i64 x.proto, .int .i64 x.room, .int .i64 x.hp]] w9 fun e w' => e = .returned (.int .i64 x.id) ∧ Keep (fun _ => False) w9 w') := Lib.hid (fun w9 => (moIdE_any (w := w9) x).mono fun e w' hh => ⟨hh.1, by obtain ⟨n, os, h⟩ := hh.2; rw [h]; exact keep_grown n os⟩)
      have HKA : Hid (Keep (fun _ => False) wr (wr.alloc (.cells #[.int .i64 x.id, .int .i64 x.proto, .int .i64 x.room, .int .i64 x.hp] 76))) := Lib.hid ((Keep.refl _ wr).alloc _)
      go_wp2_with (first
        | (go_at_call 114; (with_reducible refine (HCM.out _).mono ?_); rintro e w9 ⟨rfl, k9⟩; have K9 := Lib.hid (HKA.out.trans k9 (fun _ h => h.elim)); clear k9)
        | (at_builtin; (refine wpList_append_row _ rfl (.tmp 14) (.tmp 18) rfl Tryz.underlying175 hi0 hz0 hz1 hz2 rfl rfl ((HROW.out.keep K9.out (fun _ _ e => e)).alloc _) rfl (Src.lit Tryz.underlying175 #[.int .i64 x.id] _ 1 1 (by simp) rfl (by simp [Value.oneCell'])) (by unfold maxLen; omega) (by omega) ?_); intro v7 w2 hr2 hk2 hb2 _))
      have HR2 : Hid (Row w2 2 1 v7 (k + 1) (icells (idsL (L.take (k + 1))))) := Lib.hid (by rw [HTK.out]; exact hr2)
      have HOW2 : Hid (∀ b, v7.ownBlock = some b → w.heap.size ≤ b) := Lib.hid (fun b hb => by
        have hks := (HK.out.trans K9.out (fun _ h => h.elim)).size
        rcases hb2 b hb with h | h
        · exact HOWN.out b h
        · have h1 := h.1; first | omega | (simp at h1; omega))
      have HK2 : Hid (Keep (fun _ => False) w w2) := Lib.hid (((HK.out.trans K9.out (fun _ h => h.elim)).alloc _).trans hk2 (fun b hb => .inr (HOWN.out b hb)))
      clear hr2 hk2 hb2
      go_wp2
      go_roundw
      case rel => exact ⟨k + 1, by omega, by go_num, HR2.out, HOW2.out, HK2.out⟩
      case measure => simp [intOf]; omega
    · have hd1 : decide (k < L.length) = false := by rw [decide_eq_false_iff_not]; omega
      have hke : k = L.length := by omega
      subst hke
      have HFIN : Hid (Row wr 2 1 (.slice va L.length vc) L.length (icells (idsL L))) := Lib.hid (by
        have h := HROW.out
        rwa [List.take_of_length_le (Nat.le_refl _)] at h)
      go_wp2
      go_ret
      exact ⟨_, rfl, HFIN.out, HOWN.out, HK.out⟩

/-! ### Grow, Concat -/
theorem growL_any {w : World} {n : Nat} (hn : n ≤ 1000) : Calls Tryz.prog 218 #[.slice none 0 0, .int .i64 n] w fun e w' => ∃ v, e = .returned v ∧ Row w' 2 1 v 0 [] ∧ (∀ b, v.ownBlock = some b → w.heap.size ≤ b) ∧ Keep (fun _ => False) w w' := by
  obtain ⟨i0, hi0, hz0, hz1, hz2⟩ := info_parts Tryz.infoL
  rcases Nat.eq_zero_or_pos n with rfl | h0
  · have hcon := Any8.slices_Grow_room Tryz.growL none 0 0 0 w (by omega) (by omega) (by omega) (by omega)
    change Calls Tryz.prog 218 _ _ _ at hcon
    refine hcon.mono ?_
    rintro e w9 ⟨rfl, rfl⟩
    exact ⟨_, rfl, Row.nil _ _ _, fun b hb => by simp [Value.ownBlock] at hb, Keep.refl _ _⟩
  · have hcon := Any8.slices_Grow_grow Tryz.growL i0 _ hi0 hz0 (by omega) none 0 0 n [] w (by omega) (by omega) (by rw [hz2]; omega) (by omega) (by simp) (fun _ => rfl) (fun a h => by cases h)
    change Calls Tryz.prog 218 _ _ _ at hcon
    refine hcon.mono ?_
    rintro e w9 ⟨rfl, rfl⟩
    refine ⟨_, rfl, ?_, fun b hb => ?_, ((Keep.refl _ w).drew).alloc _⟩
    · obtain ⟨G, hG⟩ : ∃ G, G = grownCap w (0 + n) 0 (Tryz.growL_ren.t 25) := ⟨_, rfl⟩
      have hG1 := grownCap_ge w (0 + n) 0 (Tryz.growL_ren.t 25)
      have hG2 := grownCap_le_maxLen w (0 + n) 0 (Tryz.growL_ren.t 25) (by unfold maxLen; omega)
      rw [← hG] at hG1 hG2 ⊢
      refine ⟨by simp, .inr ⟨w.heap.size, 0, G, _, 0, 0, rfl, heap_alloc_new w.drew _, Nat.zero_le _, hG2, ?_, .inl (Nat.le_refl _), by simp⟩⟩
      simp only [Array.size_append, size_zeroCells]
      show _ ≤ 0 + (0 + n - 0) * 1 + (G - (0 + n)) * 1
      omega
    · simp only [Value.ownBlock, Option.some.injEq, Option.map_some] at hb
      omega
structure CcA (n : Nat) (w0 : World) (sv iv : Value) (wr : World) : Prop where
  ex : ∃ k : Nat, k ≤ 3 ∧ iv = .int .i64 (k : Int) ∧ sv = .int .i64 ((if k ≤ 1 then 0 else n : Nat) : Int) ∧ w0 = wr
structure CcB (l : List Int) (w0 : World) (nv iv : Value) (wr : World) : Prop where
  ex : ∃ k : Nat, k ≤ 3 ∧ iv = .int .i64 (k : Int) ∧ Row wr 2 1 nv (if k ≤ 1 then 0 else l.length) (if k ≤ 1 then [] else icells l) ∧ (∀ b, nv.ownBlock = some b → w0.heap.size ≤ b) ∧ Keep (fun _ => False) w0 wr
set_option maxHeartbeats 8000000 in
theorem concatL_any {w : World} {b : Nat} {v : Value} {l : List Int} (h : Row w 2 1 v l.length (icells l)) (hl : l.length ≤ 1000)
    (h0 : w.cell? ⟨b, 0, none⟩ = some (.slice none 0 0)) (h1 : w.cell? ⟨b, 1, none⟩ = some v) (h2 : w.cell? ⟨b, 2, none⟩ = some (.slice none 0 0)) :
    Calls Tryz.prog 119 #[.slice (some ⟨b, 0, none⟩) 3 3] w fun e w' => ∃ v', e = .returned v' ∧ Row w' 2 1 v' l.length (icells l) ∧ (∀ b, v'.ownBlock = some b → w.heap.size ≤ b) ∧ Keep (fun _ => False) w w' := by
  obtain ⟨i0, hi0, hz0, hz1, hz2⟩ := info_parts Tryz.infoL
  obtain ⟨a, cap, rfl, hc1, hc2⟩ := h.slice
  unfold maxLen at hc2
  have H := Lib.hid h
  have HG := Lib.hid (growL_any (w := w) hl)
  have HQ : Hid (∀ w9, Keep (fun _ => False) w w9 → w9.cell? ⟨b, 0, none⟩ = some (.slice none 0 0) ∧ w9.cell? ⟨b, 1, none⟩ = some (.slice a l.length cap) ∧ w9.cell? ⟨b, 2, none⟩ = some (.slice none 0 0)) := Lib.hid (fun w9 k => ⟨(k.cell (World.block_lt_of_cell? _ _ h0) (fun e => e) _).trans h0, (k.cell (World.block_lt_of_cell? _ _ h1) (fun e => e) _).trans h1, (k.cell (World.block_lt_of_cell? _ _ h2) (fun e => e) _).trans h2⟩)
  clear h
  go_enter Tryz.func119, Tryz.ntmps119
  go_wp2
  go_loopw [3, 5, 11] (fun sv _ iv wr => CcA l.length w sv iv wr) (fun _ _ iv _ => 3 - (intOf iv).toNat)
  case atStart => exact ⟨0, by omega, rfl, by simp, rfl⟩
  case round =>
    obtain ⟨k, hk, rfl, rfl, hw9⟩ := hrel.ex
    subst hw9
    clear hrel
    have hk4 : k = 0 ∨ k = 1 ∨ k = 2 ∨ k = 3 := by omega
    rcases hk4 with rfl | rfl | rfl | rfl
    · go_wp2
      go_roundw
      case rel => exact ⟨1, by omega, by go_num, by simp, rfl⟩
      case measure => simp [intOf]
    · have hw1 : IntKind.i64.wrap (l.length : Int) = (l.length : Int) := Cd.i64_nat _ (by omega)
      have hn1 : decide ((l.length : Int) < 0) = false := by rw [decide_eq_false_iff_not]; omega
      go_wp2
      go_roundw
      case rel => exact ⟨2, by omega, by go_num, by simp, rfl⟩
      case measure => simp [intOf]
    · have hw1 : IntKind.i64.wrap (l.length : Int) = (l.length : Int) := Cd.i64_nat _ (by omega)
      have hn1 : decide ((l.length : Int) < 0) = false := by rw [decide_eq_false_iff_not]; omega
      go_wp2
      go_roundw
      case rel => exact ⟨3, by omega, by go_num, by simp, rfl⟩
      case measure => simp [intOf]
    · clear h0 h1 h2
      go_wp2_with (go_at_call 218; (with_reducible refine HG.out.mono ?_); rintro e w9 ⟨gv, rfl, r9, o9, k9⟩; have R9 := Lib.hid r9; have O9 := Lib.hid o9; have K9 := Lib.hid k9; clear r9 o9 k9)
      go_loopw [6, 8, 27] (fun nv _ iv wr => CcB l w nv iv wr) (fun _ _ iv _ => 3 - (intOf iv).toNat)
      case atStart => exact ⟨0, by omega, rfl, by simpa using R9.out, O9.out, K9.out⟩
      case round =>
        obtain ⟨k, hk, rfl, rv, ov, kv⟩ := hrel.ex
        have OV := Lib.hid ov; have KV := Lib.hid kv
        obtain ⟨h0, h1, h2⟩ := HQ.out _ kv
        clear hrel ov kv
        have hk4 : k = 0 ∨ k = 1 ∨ k = 2 ∨ k = 3 := by omega
        rcases hk4 with rfl | rfl | rfl | rfl
        · have RV : Hid (Row wr 2 1 _ 0 []) := Lib.hid (by simpa using rv)
          clear rv
          go_wp2_with (at_builtin; (refine wpList_append_row _ rfl (.tmp 31) (.tmp 32) rfl Tryz.underlying175 hi0 hz0 hz1 hz2 rfl rfl RV.out rfl ((Row.nil wr 2 1).src Tryz.underlying175 (by simp)) (by unfold maxLen; omega) (by omega) ?_))
          intro v7 w2 hr2 hk2 hb2 _
          have HR2 := Lib.hid hr2
          have HOW2 : Hid (∀ b, v7.ownBlock = some b → w.heap.size ≤ b) := Lib.hid (fun b hb => by
            have hks := KV.out.size
            rcases hb2 b hb with h | h
            · exact OV.out b h
            · have := h.1; omega)
          have HK2 : Hid (Keep (fun _ => False) w w2) := Lib.hid (KV.out.trans hk2 (fun b hb => .inr (OV.out b hb)))
          clear hr2 hk2 hb2
          go_wp2
          go_roundw
          case rel => exact ⟨1, by omega, by go_num, by simpa using HR2.out, HOW2.out, HK2.out⟩
          case measure => simp [intOf]
        · have RV : Hid (Row wr 2 1 _ 0 []) := Lib.hid (by simpa using rv)
          have HV := Lib.hid (H.out.keep KV.out (fun _ _ e => e))
          clear rv
          go_wp2_with (at_builtin; (refine wpList_append_row _ rfl (.tmp 31) (.tmp 32) rfl Tryz.underlying175 hi0 hz0 hz1 hz2 rfl rfl RV.out rfl (HV.out.src Tryz.underlying175 (fun u hu => by simp only [icells, List.mem_map] at hu; obtain ⟨n, _, rfl⟩ := hu; rfl)) (by unfold maxLen; omega) (by omega) ?_))
          intro v7 w2 hr2 hk2 hb2 _
          have HR2 := Lib.hid hr2
          have HOW2 : Hid (∀ b, v7.ownBlock = some b → w.heap.size ≤ b) := Lib.hid (fun b hb => by
            have hks := KV.out.size
            rcases hb2 b hb with h | h
            · exact OV.out b h
            · have := h.1; omega)
          have HK2 : Hid (Keep (fun _ => False) w w2) := Lib.hid (KV.out.trans hk2 (fun b hb => .inr (OV.out b hb)))
          clear hr2 hk2 hb2
          go_wp2
          go_roundw
          case rel => exact ⟨2, by omega, by go_num, by simpa using HR2.out, HOW2.out, HK2.out⟩
          case measure => simp [intOf]
        · have RV : Hid (Row wr 2 1 _ l.length (icells l)) := Lib.hid (by simpa using rv)
          clear rv
          go_wp2_with (at_builtin; (refine wpList_append_row _ rfl (.tmp 31) (.tmp 32) rfl Tryz.underlying175 hi0 hz0 hz1 hz2 rfl rfl RV.out rfl ((Row.nil wr 2 1).src Tryz.underlying175 (by simp)) (by unfold maxLen; omega) (by omega) ?_))
          intro v7 w2 hr2 hk2 hb2 _
          have HR2 := Lib.hid hr2
          have HOW2 : Hid (∀ b, v7.ownBlock = some b → w.heap.size ≤ b) := Lib.hid (fun b hb => by
            have hks := KV.out.size
            rcases hb2 b hb with h | h
            · exact OV.out b h
            · have := h.1; omega)
          have HK2 : Hid (Keep (fun _ => False) w w2) := Lib.hid (KV.out.trans hk2 (fun b hb => .inr (OV.out b hb)))
          clear hr2 hk2 hb2
          go_wp2
          go_roundw
          case rel => exact ⟨3, by omega, by go_num, by simpa using HR2.out, HOW2.out, HK2.out⟩
          case measure => simp [intOf]
        · have RV : Hid (Row wr 2 1 _ l.length (icells l)) := Lib.hid (by simpa using rv)
          clear rv
          go_wp2
          go_ret
          exact ⟨_, rfl, RV.out, OV.out, KV.out⟩
end Go.Proofs.YtheaghgockafmaaGreat.Wd
