/- World files: the program's find, Room and Proto (made by tools/gendcf.py). -/
import Derived.Test.YtheaghgockafmaaGreatDcE
namespace Go.Proofs.YtheaghgockafmaaGreat.Wd
open Go.RowKit Go.Maps Go.Proofs.YtheaghgockafmaaGreat Go.Proofs.YtheaghgockafmaaGreat.Lin Go.Sort
set_option maxRecDepth 100000

/-- A variable of the zero value is laid, somewhere new. -/
theorem wpList_alloc_at {P : Program} {ops : Array Oper} {rest : List Oper} {o : Oper} {a : Act} {w : World} {Q : Exit → Act → World → Prop} {t : TypeId} {Z : Array Value} (n : Nat) (_hdn : o.dst = some n) (hz : Hid (∀ w : World, (zeroValue t).run P w = .ok (.agg Z) w)) (hg : o.guard = none) (ho : o.op = .alloc t)
    (h : ∀ W B, W.heap[B]? = some (.cells Z t (0, 0)) → Keep (fun _ => False) w W → w.heap.size ≤ B → wpList P ops Q rest (a.put o.dst (.pointer (some ⟨B, 0, none⟩))) W) : wpList P ops Q (o :: rest) a w :=
  Cd.wpList_alloc_arr hz hg ho (h _ _ (heap_alloc_new w _) ((Keep.refl _ w).alloc _) (Nat.le_refl _))
structure IxR {α : Type} (p : α → Bool) (L : List α) (w0 : World) (iv : Value) (wr : World) : Prop where
  ex : ∃ k : Nat, k ≤ L.length ∧ iv = .int .i64 (k : Int) ∧ (∀ (j : Nat) (a : α), j < k → L[j]? = some a → p a = false) ∧ Keep (fun _ => False) w0 wr

set_option maxHeartbeats 4000000 in
theorem indexFRoom_any {w : World} {v : Value} {L : List RoomM} (h : Seen w 10 v L.length (flat roomC L)) (p : RoomM → Bool) {g : Nat} {lb : Array Value} (eg : ∀ args w, (callFunc g args).run Tryz.prog w = .ok (.enter g args) w)
    (hp : ∀ x ∈ L, ∀ w', Keep (fun _ => False) w w' → Calls Tryz.prog g (#[.agg (roomC x).toArray] ++ lb) w' fun e w'' => e = .returned (.bool (p x)) ∧ Keep (fun _ => False) w' w'') :
    Calls Tryz.prog 246 #[v, .func (.func g) #[] lb] w fun e w' => e = .returned (.int .i64 (findI p L)) ∧ Keep (fun _ => False) w w' := by
  obtain ⟨_, a, cap, rfl, hc1, hc2, hcell⟩ := h
  unfold maxLen at hc2
  have HC := Lib.hid hcell; have HP := Lib.hid hp
  clear hcell hp
  go_enter Tryz.func246, Tryz.ntmps246
  go_wp2
  go_loopw [5, 8] (fun _ iv wr => IxR p L w iv wr) (fun _ iv _ => L.length - (intOf iv).toNat)
  case atStart => exact ⟨0, by omega, rfl, fun j a hj => by omega, Keep.refl _ _⟩
  case round =>
    obtain ⟨k, hk, rfl, hall, hK⟩ := hrel.ex
    have HA := Lib.hid hall; have HK := Lib.hid hK
    clear hall hK hrel
    by_cases hlt : k < L.length
    · have hd1 : decide (k < L.length) = true := by simpa using hlt
      obtain ⟨x, hx⟩ : ∃ x, L[k]? = some x := ⟨_, List.getElem?_eq_getElem hlt⟩
      obtain ⟨g1, off, rfl, hg, q⟩ := HC.out.resolve_left (by omega)
      have hrg := seen_range roomC_len HK.out hg q hx
      have q0 : wr.cell? ⟨g1, off + k * 10, none⟩ = some (.int .i64 x.id) := hrg 0 _ rfl
      have q1 : wr.cell? ⟨g1, off + k * 10 + 1, none⟩ = some (.string x.name) := hrg 1 _ rfl
      have q2 : wr.cell? ⟨g1, off + k * 10 + 2, none⟩ = some (.int .i64 x.kind) := hrg 2 _ rfl
      have q3 : wr.cell? ⟨g1, off + k * 10 + 3, none⟩ = some (.int .i64 x.price) := hrg 3 _ rfl
      have q4 : wr.cell? ⟨g1, off + k * 10 + 4, none⟩ = some (.int .i64 x.e0) := hrg 4 _ rfl
      have q5 : wr.cell? ⟨g1, off + k * 10 + 5, none⟩ = some (.int .i64 x.e1) := hrg 5 _ rfl
      have q6 : wr.cell? ⟨g1, off + k * 10 + 6, none⟩ = some (.int .i64 x.e2) := hrg 6 _ rfl
      have q7 : wr.cell? ⟨g1, off + k * 10 + 7, none⟩ = some (.int .i64 x.e3) := hrg 7 _ rfl
      have q8 : wr.cell? ⟨g1, off + k * 10 + 8, none⟩ = some (.int .i64 x.e4) := hrg 8 _ rfl
      have q9 : wr.cell? ⟨g1, off + k * 10 + 9, none⟩ = some (.int .i64 x.e5) := hrg 9 _ rfl
      have hm := List.mem_of_getElem? hx
      have HX := Lib.hid hx
      have HCL : Hid (Calls Tryz.prog g (#[.agg #[.int .i64 x.id, .string x.name, .int .i64 x.kind, .int .i64 x.price, .int .i64 x.e0, .int .i64 x.e1, .int .i64 x.e2, .int .i64 x.e3, .int .i64 x.e4, .int .i64 x.e5]] ++ lb) wr fun e w'' => e = .returned (.bool (p x)) ∧ Keep (fun _ => False) wr w'') := Lib.hid (HP.out x hm wr HK.out)
      clear hrg hx q hm
      cases hpx : p x with
      | true =>
        have HPX := Lib.hid hpx
        rw [hpx] at HCL
        clear hpx
        go_wp2_with (go_at_fn g; (refine HCL.out.mono ?_); rintro e w9 ⟨rfl, k9⟩; have K9 := Lib.hid k9; clear k9)
        go_ret
        exact ⟨by rw [findI_at HA.out HX.out HPX.out]; rfl, HK.out.trans K9.out (fun _ h => h.elim)⟩
      | false =>
        have HPX := Lib.hid hpx
        rw [hpx] at HCL
        clear hpx
        go_wp2_with (go_at_fn g; (refine HCL.out.mono ?_); rintro e w9 ⟨rfl, k9⟩; have K9 := Lib.hid k9; clear k9)
        go_roundw
        case rel => exact ⟨k + 1, by omega, by go_num, scan_next HA.out HX.out HPX.out, HK.out.trans K9.out (fun _ h => h.elim)⟩
        case measure => simp [intOf]; omega
    · have hd1 : decide (k < L.length) = false := by rw [decide_eq_false_iff_not]; omega
      have HF := Lib.hid (findI_none (scan_end HA.out (by omega)))
      go_wp2
      go_ret
      exact ⟨by rw [HF.out]; rfl, HK.out⟩
set_option maxHeartbeats 4000000 in
theorem findCRoom_any {W : World} {q1 q2 : Nat} {id : Int} (hq : W.cell? ⟨q1, 0, none⟩ = some (.func (.func 184) #[] #[])) (hq2 : W.cell? ⟨q2, 0, none⟩ = some (.int .i64 id)) (x : RoomM) :
    Calls Tryz.prog 321 #[.agg (roomC x).toArray, .pointer (some ⟨q1, 0, none⟩), .pointer (some ⟨q2, 0, none⟩)] W fun e w' => e = .returned (.bool (x.id == id)) ∧ Keep (fun _ => False) W w' := by
  have hql : q1 < W.heap.size := cell_lt hq
  have hql2 : q2 < W.heap.size := cell_lt hq2
  obtain ⟨W2, hW2⟩ : ∃ W2, W2 = W.alloc (.cells #[.int .i64 x.id, .string x.name, .int .i64 x.kind, .int .i64 x.price, .int .i64 x.e0, .int .i64 x.e1, .int .i64 x.e2, .int .i64 x.e3, .int .i64 x.e4, .int .i64 x.e5] 127) := ⟨_, rfl⟩
  have hk : Keep (fun _ => False) W W2 := by rw [hW2]; exact (Keep.refl _ W).alloc _
  have HX : Hid (W2.heap[W.heap.size]? = some (.cells #[.int .i64 x.id, .string x.name, .int .i64 x.kind, .int .i64 x.price, .int .i64 x.e0, .int .i64 x.e1, .int .i64 x.e2, .int .i64 x.e3, .int .i64 x.e4, .int .i64 x.e5] 127 (0, 0))) := Lib.hid (by rw [hW2]; exact heap_alloc_new W _)
  have HL3 : Hid (W.heap.size < W2.heap.size) := Lib.hid (lt_of_block HX.out)
  have qq := fun n os => cell_grown (w := W2) (a := ⟨q1, 0, none⟩) (Nat.lt_of_lt_of_le hql hk.size) ((hk.cell hql (fun h => h) 0).trans hq) n os
  have qq2 := fun n os => cell_grown (w := W2) (a := ⟨q2, 0, none⟩) (Nat.lt_of_lt_of_le hql2 hk.size) ((hk.cell hql2 (fun h => h) 0).trans hq2) n os
  have HK := Lib.hid hk
  have mixed := Tryz.mixedO
  simp only [roomC]
  clear hq hq2 hk
  go_enter Tryz.func321, Tryz.ntmps321
  go_wp2
  rw [← hW2]
  clear hW2
  generalize hb3 : W.heap.size = b3 at *
  have x0 := fun n os => cell_grown (w := W2) (a := ⟨b3, 0, none⟩) (v := .int .i64 x.id) HL3.out (((cell_of_row W2 b3 0 _ _ _ HX.out).trans rfl)) n os
  have x1 := fun n os => cell_grown (w := W2) (a := ⟨b3, 1, none⟩) (v := .string x.name) HL3.out (((cell_of_row W2 b3 1 _ _ _ HX.out).trans rfl)) n os
  have x2 := fun n os => cell_grown (w := W2) (a := ⟨b3, 2, none⟩) (v := .int .i64 x.kind) HL3.out (((cell_of_row W2 b3 2 _ _ _ HX.out).trans rfl)) n os
  have x3 := fun n os => cell_grown (w := W2) (a := ⟨b3, 3, none⟩) (v := .int .i64 x.price) HL3.out (((cell_of_row W2 b3 3 _ _ _ HX.out).trans rfl)) n os
  have x4 := fun n os => cell_grown (w := W2) (a := ⟨b3, 4, none⟩) (v := .int .i64 x.e0) HL3.out (((cell_of_row W2 b3 4 _ _ _ HX.out).trans rfl)) n os
  have x5 := fun n os => cell_grown (w := W2) (a := ⟨b3, 5, none⟩) (v := .int .i64 x.e1) HL3.out (((cell_of_row W2 b3 5 _ _ _ HX.out).trans rfl)) n os
  have x6 := fun n os => cell_grown (w := W2) (a := ⟨b3, 6, none⟩) (v := .int .i64 x.e2) HL3.out (((cell_of_row W2 b3 6 _ _ _ HX.out).trans rfl)) n os
  have x7 := fun n os => cell_grown (w := W2) (a := ⟨b3, 7, none⟩) (v := .int .i64 x.e3) HL3.out (((cell_of_row W2 b3 7 _ _ _ HX.out).trans rfl)) n os
  have x8 := fun n os => cell_grown (w := W2) (a := ⟨b3, 8, none⟩) (v := .int .i64 x.e4) HL3.out (((cell_of_row W2 b3 8 _ _ _ HX.out).trans rfl)) n os
  have x9 := fun n os => cell_grown (w := W2) (a := ⟨b3, 9, none⟩) (v := .int .i64 x.e5) HL3.out (((cell_of_row W2 b3 9 _ _ _ HX.out).trans rfl)) n os
  go_quiet_grown (first | (go_at_call 184; exact Calls.grown_of (roomId_any _)))
  go_wp2
  go_ret
  exact ⟨rfl, HK.out.trans (keep_grown nq osq) (fun _ h => h.elim)⟩
theorem Tryz.en_findCRoom : ∀ args w, (callFunc 321 args).run Tryz.prog w = .ok (.enter 321 args) w := enters_of Tryz.func321 (by kernel_rfl) rfl
/-- A row of that number, or none. -/
def FndRoom (L : List RoomM) (id : Int) (e : Ending) : Prop :=
  (∃ k x, findI (fun x : RoomM => x.id == id) L = ((k : Nat) : Int) ∧ L[k]? = some x ∧ e = .returned (.tuple #[.agg (roomC x).toArray, .bool true])) ∨ (findI (fun x : RoomM => x.id == id) L = -1 ∧ e = .returned (.tuple #[.agg (roomC ⟨0, ⟨#[]⟩, 0, 0, 0, 0, 0, 0, 0, 0⟩).toArray, .bool false]))
theorem zFRoom : ∃ Z : Array Value, Hid (∀ w : World, (zeroValue 127).run Tryz.prog w = .ok (.agg Z) w) ∧ Hid (Z.size = 10) ∧ Hid (Z = (roomC ⟨0, ⟨#[]⟩, 0, 0, 0, 0, 0, 0, 0, 0⟩).toArray) :=
  ⟨(roomC ⟨0, ⟨#[]⟩, 0, 0, 0, 0, 0, 0, 0, 0⟩).toArray, Lib.hid (fun w => by kernel_rfl), Lib.hid rfl, Lib.hid rfl⟩
theorem Tryz.infoFRoom : (Tryz.prog.info? 127).map (·.size) = some 10 := by kernel_rfl
set_option maxHeartbeats 8000000 in
theorem findRoom_any {w : World} {v : Value} {L : List RoomM} (h : Seen w 10 v L.length (flat roomC L)) (id : Int) :
    Calls Tryz.prog 241 #[v, .func (.func 184) #[] #[], .int .i64 id] w fun e w' => FndRoom L id e ∧ Keep (fun _ => False) w w' := by
  obtain ⟨W0, hW0⟩ : ∃ W0, W0 = ((w.alloc (.cells #[.func (.func 184) #[] #[]] 215)).alloc (.cells #[.int .i64 id] 3)).alloc (.cells (roomC ⟨0, ⟨#[]⟩, 0, 0, 0, 0, 0, 0, 0, 0⟩).toArray 127) := ⟨_, rfl⟩
  have hk : Keep (fun _ => False) w W0 := by rw [hW0]; exact (((Keep.refl _ w).alloc _).alloc _).alloc _
  have hq1 : W0.cell? ⟨w.heap.size, 0, none⟩ = some (.func (.func 184) #[] #[]) := by
    rw [hW0, ((((Keep.refl (fun _ => False) (w.alloc (.cells #[.func (.func 184) #[] #[]] 215))).alloc (.cells #[.int .i64 id] 3)).alloc (.cells (roomC ⟨0, ⟨#[]⟩, 0, 0, 0, 0, 0, 0, 0, 0⟩).toArray 127))).cell (by simp) (fun h => h), cell_of_row _ _ _ _ _ _ (heap_alloc_new w _)]; rfl
  have hq2 : W0.cell? ⟨w.heap.size + 1, 0, none⟩ = some (.int .i64 id) := by
    have h1 := heap_alloc_new (w.alloc (.cells #[.func (.func 184) #[] #[]] 215)) (.cells #[.int .i64 id] 3)
    rw [hW0, ((Keep.refl (fun _ => False) ((w.alloc (.cells #[.func (.func 184) #[] #[]] 215)).alloc (.cells #[.int .i64 id] 3))).alloc (.cells (roomC ⟨0, ⟨#[]⟩, 0, 0, 0, 0, 0, 0, 0, 0⟩).toArray 127)).cell (by simp) (fun h => h)]
    rw [show (w.alloc (.cells #[.func (.func 184) #[] #[]] 215)).heap.size = w.heap.size + 1 by simp] at h1
    rw [cell_of_row _ _ _ _ _ _ h1]; rfl
  have hres : W0.heap[w.heap.size + 1 + 1]? = some (.cells (roomC ⟨0, ⟨#[]⟩, 0, 0, 0, 0, 0, 0, 0, 0⟩).toArray 127 (0, 0)) := by
    have h1 := heap_alloc_new ((w.alloc (.cells #[.func (.func 184) #[] #[]] 215)).alloc (.cells #[.int .i64 id] 3)) (.cells (roomC ⟨0, ⟨#[]⟩, 0, 0, 0, 0, 0, 0, 0, 0⟩).toArray 127)
    rw [hW0]
    simpa using h1
  have hix := indexFRoom_any (h.keep hk (fun _ _ _ h => h)) (fun x : RoomM => x.id == id) (lb := #[.pointer (some ⟨w.heap.size, 0, none⟩), .pointer (some ⟨w.heap.size + 1, 0, none⟩)]) Tryz.en_findCRoom (fun x _ w' k' => findCRoom_any ((k'.cell (cell_lt hq1) (fun h => h) _).trans hq1) ((k'.cell (cell_lt hq2) (fun h => h) _).trans hq2) x)
  have HS : Hid (∀ w', Keep (fun _ => False) W0 w' → Seen w' 10 v L.length (flat roomC L)) := Lib.hid (fun w' k' => (h.keep hk (fun _ _ _ h => h)).keep k' (fun _ _ _ h => h))
  obtain ⟨_, a, cap, rfl, hc1, hc2, hcell⟩ := h
  unfold maxLen at hc2
  have HC := Lib.hid hcell
  have HIX := Lib.hid hix
  have HK := Lib.hid hk
  have HR := Lib.hid hres
  have HWE := Lib.hid hW0.symm
  obtain ⟨Z, HZ, HZS, HZE⟩ := zFRoom
  have HI9 := Lib.hid Tryz.infoFRoom
  clear hcell hix hk hres hW0 hq1 hq2
  rcases findI_cases (fun x : RoomM => x.id == id) L with ⟨hf, _⟩ | ⟨k, x, hf, hx, _, _⟩
  · have HF := Lib.hid hf
    rw [hf] at HIX
    clear hf
    go_enter Tryz.func241, Tryz.ntmps241
    go_wp2_with (first
      | (go_at_call 246; (try simp only [roomC] at HWE HIX); rw [HWE.out]; (refine HIX.out.mono ?_); rintro e w9 ⟨rfl, k9⟩; have K9 := Lib.hid k9; have HR9 : Hid (w9.heap[w.heap.size + 1 + 1]? = some (.cells (roomC ⟨0, ⟨#[]⟩, 0, 0, 0, 0, 0, 0, 0, 0⟩).toArray 127 (0, 0))) := Lib.hid ((k9.block _ (lt_of_block HR.out) (fun h => h)).trans HR.out); clear k9)
      | (refine wpList_alloc_at 9 rfl HZ.out rfl rfl ?_; intro W1 B1 hb1 hk1 _; have HB1 := Lib.hid hb1; have HK1 := Lib.hid hk1; have HR1 : Hid (W1.heap[w.heap.size + 1 + 1]? = some (.cells (roomC ⟨0, ⟨#[]⟩, 0, 0, 0, 0, 0, 0, 0, 0⟩).toArray 127 (0, 0))) := Lib.hid ((hk1.block _ (lt_of_block HR9.out) (fun h => h)).trans HR9.out); clear hb1 hk1; simp only [Act.put, List.setIfInBounds_toArray, List.set_cons_succ, List.set_cons_zero])
      | (refine Cd.wpList_load_arr (C := Z) Tryz.underlying127 rfl (by rw [HZS.out]; exact HI9.out) rfl (.tmp 9) rfl B1 rfl HB1.out ?_; simp only [Act.put, List.setIfInBounds_toArray, List.set_cons_succ, List.set_cons_zero])
      | (refine Cd.wpList_store_arr (by rw [HZS.out]; exact HI9.out) (by rw [HZS.out]; rfl) (by rw [HZE.out]; simp [roomC, Value.oneCell']) rfl (.tmp 6) (.tmp 15) rfl (w.heap.size + 1 + 1) rfl rfl HR1.out ?_; intro ws hws kss hss; have HW := Lib.hid hws; have HKS := Lib.hid kss; clear hws kss hss; simp only [Act.put]))
    refine bodyPost_ret (Cd.results_arr Tryz.results241 _ _ (w.heap.size + 1 + 1) rfl HW.out Tryz.underlying127 rfl (by rw [HZS.out]; exact HI9.out)) rfl ?_
    refine ⟨.inr ⟨HF.out, by rw [HZE.out]; rfl⟩, ?_⟩
    exact (((HK.out.trans K9.out (fun _ h => h.elim)).trans HK1.out (fun _ h => h.elim)).trans HKS.out (fun b hb => .inr (by omega)))
  · have HF := Lib.hid hf
    have HX := Lib.hid hx
    have hlt : k < L.length := (List.getElem?_eq_some_iff.1 hx).1
    have hd1 : decide (k < L.length) = true := by simpa using hlt
    have hneg : decide ((k : Int) < 0) = false := by rw [decide_eq_false_iff_not]; omega
    obtain ⟨g1, off, rfl, hg, q⟩ := HC.out.resolve_left (by omega)
    have hrg := seen_range roomC_len HK.out hg q hx
    have HQ : Hid (∀ w', Keep (fun _ => False) W0 w' → w'.rangeAt g1 (off + k * 10) (roomC x)) := Lib.hid (fun w' k' => range_keep hrg k' (Nat.lt_of_lt_of_le hg HK.out.size) (fun h => h))
    have HGW : Hid (g1 < W0.heap.size) := Lib.hid (Nat.lt_of_lt_of_le hg HK.out.size)
    rw [hf] at HIX
    clear hf hx hrg q hg HC
    go_enter Tryz.func241, Tryz.ntmps241
    go_wp2_with (first
      | (go_at_call 246; (try simp only [roomC] at HWE HIX); rw [HWE.out]; (refine HIX.out.mono ?_); rintro e w9 ⟨rfl, k9⟩; have K9 := Lib.hid k9; have HR9 : Hid (w9.heap[w.heap.size + 1 + 1]? = some (.cells (roomC ⟨0, ⟨#[]⟩, 0, 0, 0, 0, 0, 0, 0, 0⟩).toArray 127 (0, 0))) := Lib.hid ((k9.block _ (lt_of_block HR.out) (fun h => h)).trans HR.out); have q0 : w9.cell? ⟨g1, off + k * 10, none⟩ = some (.int .i64 x.id) := HQ.out w9 K9.out 0 _ rfl; have q1 : w9.cell? ⟨g1, off + k * 10 + 1, none⟩ = some (.string x.name) := HQ.out w9 K9.out 1 _ rfl; have q2 : w9.cell? ⟨g1, off + k * 10 + 2, none⟩ = some (.int .i64 x.kind) := HQ.out w9 K9.out 2 _ rfl; have q3 : w9.cell? ⟨g1, off + k * 10 + 3, none⟩ = some (.int .i64 x.price) := HQ.out w9 K9.out 3 _ rfl; have q4 : w9.cell? ⟨g1, off + k * 10 + 4, none⟩ = some (.int .i64 x.e0) := HQ.out w9 K9.out 4 _ rfl; have q5 : w9.cell? ⟨g1, off + k * 10 + 5, none⟩ = some (.int .i64 x.e1) := HQ.out w9 K9.out 5 _ rfl; have q6 : w9.cell? ⟨g1, off + k * 10 + 6, none⟩ = some (.int .i64 x.e2) := HQ.out w9 K9.out 6 _ rfl; have q7 : w9.cell? ⟨g1, off + k * 10 + 7, none⟩ = some (.int .i64 x.e3) := HQ.out w9 K9.out 7 _ rfl; have q8 : w9.cell? ⟨g1, off + k * 10 + 8, none⟩ = some (.int .i64 x.e4) := HQ.out w9 K9.out 8 _ rfl; have q9 : w9.cell? ⟨g1, off + k * 10 + 9, none⟩ = some (.int .i64 x.e5) := HQ.out w9 K9.out 9 _ rfl; clear k9)
      | (refine Cd.wpList_store_arr (C := (roomC x).toArray) HI9.out (by rfl) (by simp [roomC, Value.oneCell']) rfl (.tmp 6) (.tmp 19) rfl (w.heap.size + 1 + 1) rfl rfl HR9.out ?_; intro ws hws kss hss; have HW := Lib.hid hws; have HKS := Lib.hid kss; clear hws kss hss; simp only [Act.put]))
    refine bodyPost_ret (Cd.results_arr Tryz.results241 _ _ (w.heap.size + 1 + 1) rfl HW.out Tryz.underlying127 rfl HI9.out) rfl ?_
    refine ⟨.inl ⟨k, x, HF.out, HX.out, rfl⟩, ?_⟩
    exact ((HK.out.trans K9.out (fun _ h => h.elim)).trans HKS.out (fun b hb => .inr (by omega)))
theorem fndRoom_one (L : List RoomM) (id : Int) : ∃ (C9 : Array Value) (b9 : Bool), FndRoom L id (.returned (.tuple #[.agg C9, .bool b9])) ∧ (∀ e, FndRoom L id e → e = .returned (.tuple #[.agg C9, .bool b9])) ∧ C9.size = 10 ∧ C9.all (·.oneCell') = true ∧ b9 = decide (0 ≤ findI (fun x : RoomM => x.id == id) L) := by
  rcases findI_cases (fun x : RoomM => x.id == id) L with ⟨hf, _⟩ | ⟨k, x, hf, hx, _, _⟩
  · refine ⟨(roomC ⟨0, ⟨#[]⟩, 0, 0, 0, 0, 0, 0, 0, 0⟩).toArray, false, .inr ⟨hf, rfl⟩, fun e he => ?_, rfl, by simp [roomC, Value.oneCell'], by rw [hf]; rfl⟩
    rcases he with ⟨k, x, h1, _⟩ | ⟨_, h⟩
    · rw [hf] at h1; omega
    · exact h
  · refine ⟨(roomC x).toArray, true, .inl ⟨k, x, hf, hx, rfl⟩, fun e he => ?_, rfl, by simp [roomC, Value.oneCell'], by rw [hf]; symm; rw [decide_eq_true_eq]; omega⟩
    rcases he with ⟨k', x', h1, h2, h3⟩ | ⟨h1, _⟩
    · have : k' = k := by omega
      subst this
      rw [hx] at h2; cases h2
      exact h3
    · rw [hf] at h1; omega
set_option maxHeartbeats 4000000 in
theorem RoomF_any {P : Nat → Prop} {w : World} {d : Nat} {D : DbM} (h : DbAt P w d 0 D) (id : Int) : Calls Tryz.prog 152 #[.pointer (some ⟨d, 0, none⟩), .int .i64 id] w fun e w' => FndRoom D.rooms id e ∧ Keep (fun _ => False) w w' := by
  obtain ⟨v1, v2, v3, v4, v5, v6, rr, ss, hd, hr, h1, h2, _⟩ := h.ex
  have p1 : w.cell? ⟨d, 0, none⟩ = some v1 := hr 0 _ rfl
  obtain ⟨C9, b9, HF9, HU9, HS9, HO9, -⟩ := fndRoom_one D.rooms id
  have HFIND : Hid (∀ W, Keep (fun _ => False) w W → Calls Tryz.prog 241 #[v1, .func (.func 184) #[] #[], .int .i64 id] W fun e w' => e = .returned (.tuple #[.agg C9, .bool b9]) ∧ Keep (fun _ => False) W w') := Lib.hid (fun W k => (findRoom_any ((h1.row.seen).keep k (fun _ _ _ h => h)) id).mono fun e w' hh => ⟨HU9 e hh.1, hh.2⟩)
  have HFR : Hid (∀ e, e = .returned (.tuple #[.agg C9, .bool b9]) → FndRoom D.rooms id e) := Lib.hid (fun e he => he ▸ HF9)
  have HP : Hid (∀ W, Keep (fun _ => False) w W → W.cell? ⟨d, 0, none⟩ = some v1) := Lib.hid (fun W k => (k.cell hd (fun h => h) _).trans p1)
  have HS := Lib.hid HS9
  have HO := Lib.hid HO9
  obtain ⟨Z, HZ, HZS, HZE⟩ := zFRoom
  have HI9 := Lib.hid Tryz.infoFRoom
  clear h hr h1 h2 HF9 HU9 HS9 HO9 p1
  go_enter Tryz.func152, Tryz.ntmps152
  go_wp2_with (first
    | (refine wpList_alloc_at 4 rfl HZ.out rfl rfl ?_; intro W1 B1 hb1 hk1 hbs; have HB1 := Lib.hid hb1; have HK1 := Lib.hid hk1; have HBS := Lib.hid hbs; clear hbs; have c1 := HP.out W1 hk1; clear hb1 hk1; simp only [Act.put, List.setIfInBounds_toArray, List.set_cons_succ, List.set_cons_zero])
    | (go_at_call 241; (with_reducible refine (HFIND.out _ HK1.out).mono ?_); rintro e w9 ⟨rfl, k9⟩; have K9 := Lib.hid k9; have HB9 : Hid (w9.heap[B1]? = some (.cells Z 127 (0, 0))) := Lib.hid ((k9.block _ (lt_of_block HB1.out) (fun h => h)).trans HB1.out); clear k9)
    | (refine Cd.wpList_store_arr (C := C9) (by rw [HS.out]; exact HI9.out) (by rw [HZS.out, HS.out]) HO.out rfl (.tmp 4) (.tmp 15) rfl B1 rfl rfl HB9.out ?_; intro ws hws kss hss; have HW := Lib.hid hws; have HKS := Lib.hid kss; clear hws kss hss; simp only [Act.put]))
  refine bodyPost_ret (Cd.results_arr Tryz.results152 _ _ B1 rfl HW.out Tryz.underlying127 rfl (by rw [HS.out]; exact HI9.out)) rfl ?_
  exact ⟨HFR.out _ rfl, (HK1.out.trans K9.out (fun _ h => h.elim)).trans HKS.out (fun b hb => .inr (by have := HBS.out; omega))⟩
set_option maxHeartbeats 4000000 in
theorem hasRoom_any {P : Nat → Prop} {w : World} {d : Nat} {D : DbM} (h : DbAt P w d 0 D) (id : Int) : Calls Tryz.prog 206 #[.pointer (some ⟨d, 0, none⟩), .int .i64 id] w fun e w' => e = .returned (.bool (hasRoom D id)) ∧ Keep (fun _ => False) w w' := by
  obtain ⟨C9, b9, -, HU9, HS9, HO9, hb⟩ := fndRoom_one D.rooms id
  have hb2 : hasRoom D id = b9 := by rw [hb]; rfl
  rw [hb2]
  have HFIND : Hid (Calls Tryz.prog 152 #[.pointer (some ⟨d, 0, none⟩), .int .i64 id] w fun e w' => e = .returned (.tuple #[.agg C9, .bool b9]) ∧ Keep (fun _ => False) w w') := Lib.hid ((RoomF_any h id).mono fun e w' hh => ⟨HU9 e hh.1, hh.2⟩)
  have HS := Lib.hid HS9
  have HO := Lib.hid HO9
  obtain ⟨Z, HZ, HZS, HZE⟩ := zFRoom
  have HI9 := Lib.hid Tryz.infoFRoom
  clear h HU9 HS9 HO9 hb hb2
  go_enter Tryz.func206, Tryz.ntmps206
  go_wp2_with (first
    | (go_at_call 152; (with_reducible refine HFIND.out.mono ?_); rintro e w9 ⟨rfl, k9⟩; have K9 := Lib.hid k9; clear k9)
    | (refine wpList_var_any (C := C9) HZ.out (by rw [HS.out]; exact HI9.out) (by rw [HZS.out, HS.out]) HO.out rfl rfl rfl (.tmp 5) (.tmp 11) rfl rfl rfl ?_; intro W1 B1 hb1 hk1; have HK1 := Lib.hid hk1; clear hb1 hk1; simp only [Act.put, List.setIfInBounds_toArray, List.set_cons_succ, List.set_cons_zero]))
  go_ret
  exact ⟨rfl, K9.out.trans HK1.out (fun _ h => h.elim)⟩

set_option maxHeartbeats 4000000 in
theorem indexFProto_any {w : World} {v : Value} {L : List ProtoM} (h : Seen w 5 v L.length (flat protoC L)) (p : ProtoM → Bool) {g : Nat} {lb : Array Value} (eg : ∀ args w, (callFunc g args).run Tryz.prog w = .ok (.enter g args) w)
    (hp : ∀ x ∈ L, ∀ w', Keep (fun _ => False) w w' → Calls Tryz.prog g (#[.agg (protoC x).toArray] ++ lb) w' fun e w'' => e = .returned (.bool (p x)) ∧ Keep (fun _ => False) w' w'') :
    Calls Tryz.prog 317 #[v, .func (.func g) #[] lb] w fun e w' => e = .returned (.int .i64 (findI p L)) ∧ Keep (fun _ => False) w w' := by
  obtain ⟨_, a, cap, rfl, hc1, hc2, hcell⟩ := h
  unfold maxLen at hc2
  have HC := Lib.hid hcell; have HP := Lib.hid hp
  clear hcell hp
  go_enter Tryz.func317, Tryz.ntmps317
  go_wp2
  go_loopw [5, 8] (fun _ iv wr => IxR p L w iv wr) (fun _ iv _ => L.length - (intOf iv).toNat)
  case atStart => exact ⟨0, by omega, rfl, fun j a hj => by omega, Keep.refl _ _⟩
  case round =>
    obtain ⟨k, hk, rfl, hall, hK⟩ := hrel.ex
    have HA := Lib.hid hall; have HK := Lib.hid hK
    clear hall hK hrel
    by_cases hlt : k < L.length
    · have hd1 : decide (k < L.length) = true := by simpa using hlt
      obtain ⟨x, hx⟩ : ∃ x, L[k]? = some x := ⟨_, List.getElem?_eq_getElem hlt⟩
      obtain ⟨g1, off, rfl, hg, q⟩ := HC.out.resolve_left (by omega)
      have hrg := seen_range protoC_len HK.out hg q hx
      have q0 : wr.cell? ⟨g1, off + k * 5, none⟩ = some (.int .i64 x.id) := hrg 0 _ rfl
      have q1 : wr.cell? ⟨g1, off + k * 5 + 1, none⟩ = some (.string x.name) := hrg 1 _ rfl
      have q2 : wr.cell? ⟨g1, off + k * 5 + 2, none⟩ = some (.int .i64 x.slot) := hrg 2 _ rfl
      have q3 : wr.cell? ⟨g1, off + k * 5 + 3, none⟩ = some (.int .i64 x.power) := hrg 3 _ rfl
      have q4 : wr.cell? ⟨g1, off + k * 5 + 4, none⟩ = some (.int .i64 x.price) := hrg 4 _ rfl
      have hm := List.mem_of_getElem? hx
      have HX := Lib.hid hx
      have HCL : Hid (Calls Tryz.prog g (#[.agg #[.int .i64 x.id, .string x.name, .int .i64 x.slot, .int .i64 x.power, .int .i64 x.price]] ++ lb) wr fun e w'' => e = .returned (.bool (p x)) ∧ Keep (fun _ => False) wr w'') := Lib.hid (HP.out x hm wr HK.out)
      clear hrg hx q hm
      cases hpx : p x with
      | true =>
        have HPX := Lib.hid hpx
        rw [hpx] at HCL
        clear hpx
        go_wp2_with (go_at_fn g; (refine HCL.out.mono ?_); rintro e w9 ⟨rfl, k9⟩; have K9 := Lib.hid k9; clear k9)
        go_ret
        exact ⟨by rw [findI_at HA.out HX.out HPX.out]; rfl, HK.out.trans K9.out (fun _ h => h.elim)⟩
      | false =>
        have HPX := Lib.hid hpx
        rw [hpx] at HCL
        clear hpx
        go_wp2_with (go_at_fn g; (refine HCL.out.mono ?_); rintro e w9 ⟨rfl, k9⟩; have K9 := Lib.hid k9; clear k9)
        go_roundw
        case rel => exact ⟨k + 1, by omega, by go_num, scan_next HA.out HX.out HPX.out, HK.out.trans K9.out (fun _ h => h.elim)⟩
        case measure => simp [intOf]; omega
    · have hd1 : decide (k < L.length) = false := by rw [decide_eq_false_iff_not]; omega
      have HF := Lib.hid (findI_none (scan_end HA.out (by omega)))
      go_wp2
      go_ret
      exact ⟨by rw [HF.out]; rfl, HK.out⟩
set_option maxHeartbeats 4000000 in
theorem findCProto_any {W : World} {q1 q2 : Nat} {id : Int} (hq : W.cell? ⟨q1, 0, none⟩ = some (.func (.func 187) #[] #[])) (hq2 : W.cell? ⟨q2, 0, none⟩ = some (.int .i64 id)) (x : ProtoM) :
    Calls Tryz.prog 318 #[.agg (protoC x).toArray, .pointer (some ⟨q1, 0, none⟩), .pointer (some ⟨q2, 0, none⟩)] W fun e w' => e = .returned (.bool (x.id == id)) ∧ Keep (fun _ => False) W w' := by
  have hql : q1 < W.heap.size := cell_lt hq
  have hql2 : q2 < W.heap.size := cell_lt hq2
  obtain ⟨W2, hW2⟩ : ∃ W2, W2 = W.alloc (.cells #[.int .i64 x.id, .string x.name, .int .i64 x.slot, .int .i64 x.power, .int .i64 x.price] 133) := ⟨_, rfl⟩
  have hk : Keep (fun _ => False) W W2 := by rw [hW2]; exact (Keep.refl _ W).alloc _
  have HX : Hid (W2.heap[W.heap.size]? = some (.cells #[.int .i64 x.id, .string x.name, .int .i64 x.slot, .int .i64 x.power, .int .i64 x.price] 133 (0, 0))) := Lib.hid (by rw [hW2]; exact heap_alloc_new W _)
  have HL3 : Hid (W.heap.size < W2.heap.size) := Lib.hid (lt_of_block HX.out)
  have qq := fun n os => cell_grown (w := W2) (a := ⟨q1, 0, none⟩) (Nat.lt_of_lt_of_le hql hk.size) ((hk.cell hql (fun h => h) 0).trans hq) n os
  have qq2 := fun n os => cell_grown (w := W2) (a := ⟨q2, 0, none⟩) (Nat.lt_of_lt_of_le hql2 hk.size) ((hk.cell hql2 (fun h => h) 0).trans hq2) n os
  have HK := Lib.hid hk
  have mixed := Tryz.mixedO
  simp only [protoC]
  clear hq hq2 hk
  go_enter Tryz.func318, Tryz.ntmps318
  go_wp2
  rw [← hW2]
  clear hW2
  generalize hb3 : W.heap.size = b3 at *
  have x0 := fun n os => cell_grown (w := W2) (a := ⟨b3, 0, none⟩) (v := .int .i64 x.id) HL3.out (((cell_of_row W2 b3 0 _ _ _ HX.out).trans rfl)) n os
  have x1 := fun n os => cell_grown (w := W2) (a := ⟨b3, 1, none⟩) (v := .string x.name) HL3.out (((cell_of_row W2 b3 1 _ _ _ HX.out).trans rfl)) n os
  have x2 := fun n os => cell_grown (w := W2) (a := ⟨b3, 2, none⟩) (v := .int .i64 x.slot) HL3.out (((cell_of_row W2 b3 2 _ _ _ HX.out).trans rfl)) n os
  have x3 := fun n os => cell_grown (w := W2) (a := ⟨b3, 3, none⟩) (v := .int .i64 x.power) HL3.out (((cell_of_row W2 b3 3 _ _ _ HX.out).trans rfl)) n os
  have x4 := fun n os => cell_grown (w := W2) (a := ⟨b3, 4, none⟩) (v := .int .i64 x.price) HL3.out (((cell_of_row W2 b3 4 _ _ _ HX.out).trans rfl)) n os
  go_quiet_grown (first | (go_at_call 187; exact Calls.grown_of (protoId_any _)))
  go_wp2
  go_ret
  exact ⟨rfl, HK.out.trans (keep_grown nq osq) (fun _ h => h.elim)⟩
theorem Tryz.en_findCProto : ∀ args w, (callFunc 318 args).run Tryz.prog w = .ok (.enter 318 args) w := enters_of Tryz.func318 (by kernel_rfl) rfl
/-- A row of that number, or none. -/
def FndProto (L : List ProtoM) (id : Int) (e : Ending) : Prop :=
  (∃ k x, findI (fun x : ProtoM => x.id == id) L = ((k : Nat) : Int) ∧ L[k]? = some x ∧ e = .returned (.tuple #[.agg (protoC x).toArray, .bool true])) ∨ (findI (fun x : ProtoM => x.id == id) L = -1 ∧ e = .returned (.tuple #[.agg (protoC ⟨0, ⟨#[]⟩, 0, 0, 0⟩).toArray, .bool false]))
theorem zFProto : ∃ Z : Array Value, Hid (∀ w : World, (zeroValue 133).run Tryz.prog w = .ok (.agg Z) w) ∧ Hid (Z.size = 5) ∧ Hid (Z = (protoC ⟨0, ⟨#[]⟩, 0, 0, 0⟩).toArray) :=
  ⟨(protoC ⟨0, ⟨#[]⟩, 0, 0, 0⟩).toArray, Lib.hid (fun w => by kernel_rfl), Lib.hid rfl, Lib.hid rfl⟩
theorem Tryz.infoFProto : (Tryz.prog.info? 133).map (·.size) = some 5 := by kernel_rfl
set_option maxHeartbeats 8000000 in
theorem findProto_any {w : World} {v : Value} {L : List ProtoM} (h : Seen w 5 v L.length (flat protoC L)) (id : Int) :
    Calls Tryz.prog 235 #[v, .func (.func 187) #[] #[], .int .i64 id] w fun e w' => FndProto L id e ∧ Keep (fun _ => False) w w' := by
  obtain ⟨W0, hW0⟩ : ∃ W0, W0 = ((w.alloc (.cells #[.func (.func 187) #[] #[]] 217)).alloc (.cells #[.int .i64 id] 3)).alloc (.cells (protoC ⟨0, ⟨#[]⟩, 0, 0, 0⟩).toArray 133) := ⟨_, rfl⟩
  have hk : Keep (fun _ => False) w W0 := by rw [hW0]; exact (((Keep.refl _ w).alloc _).alloc _).alloc _
  have hq1 : W0.cell? ⟨w.heap.size, 0, none⟩ = some (.func (.func 187) #[] #[]) := by
    rw [hW0, ((((Keep.refl (fun _ => False) (w.alloc (.cells #[.func (.func 187) #[] #[]] 217))).alloc (.cells #[.int .i64 id] 3)).alloc (.cells (protoC ⟨0, ⟨#[]⟩, 0, 0, 0⟩).toArray 133))).cell (by simp) (fun h => h), cell_of_row _ _ _ _ _ _ (heap_alloc_new w _)]; rfl
  have hq2 : W0.cell? ⟨w.heap.size + 1, 0, none⟩ = some (.int .i64 id) := by
    have h1 := heap_alloc_new (w.alloc (.cells #[.func (.func 187) #[] #[]] 217)) (.cells #[.int .i64 id] 3)
    rw [hW0, ((Keep.refl (fun _ => False) ((w.alloc (.cells #[.func (.func 187) #[] #[]] 217)).alloc (.cells #[.int .i64 id] 3))).alloc (.cells (protoC ⟨0, ⟨#[]⟩, 0, 0, 0⟩).toArray 133)).cell (by simp) (fun h => h)]
    rw [show (w.alloc (.cells #[.func (.func 187) #[] #[]] 217)).heap.size = w.heap.size + 1 by simp] at h1
    rw [cell_of_row _ _ _ _ _ _ h1]; rfl
  have hres : W0.heap[w.heap.size + 1 + 1]? = some (.cells (protoC ⟨0, ⟨#[]⟩, 0, 0, 0⟩).toArray 133 (0, 0)) := by
    have h1 := heap_alloc_new ((w.alloc (.cells #[.func (.func 187) #[] #[]] 217)).alloc (.cells #[.int .i64 id] 3)) (.cells (protoC ⟨0, ⟨#[]⟩, 0, 0, 0⟩).toArray 133)
    rw [hW0]
    simpa using h1
  have hix := indexFProto_any (h.keep hk (fun _ _ _ h => h)) (fun x : ProtoM => x.id == id) (lb := #[.pointer (some ⟨w.heap.size, 0, none⟩), .pointer (some ⟨w.heap.size + 1, 0, none⟩)]) Tryz.en_findCProto (fun x _ w' k' => findCProto_any ((k'.cell (cell_lt hq1) (fun h => h) _).trans hq1) ((k'.cell (cell_lt hq2) (fun h => h) _).trans hq2) x)
  have HS : Hid (∀ w', Keep (fun _ => False) W0 w' → Seen w' 5 v L.length (flat protoC L)) := Lib.hid (fun w' k' => (h.keep hk (fun _ _ _ h => h)).keep k' (fun _ _ _ h => h))
  obtain ⟨_, a, cap, rfl, hc1, hc2, hcell⟩ := h
  unfold maxLen at hc2
  have HC := Lib.hid hcell
  have HIX := Lib.hid hix
  have HK := Lib.hid hk
  have HR := Lib.hid hres
  have HWE := Lib.hid hW0.symm
  obtain ⟨Z, HZ, HZS, HZE⟩ := zFProto
  have HI9 := Lib.hid Tryz.infoFProto
  clear hcell hix hk hres hW0 hq1 hq2
  rcases findI_cases (fun x : ProtoM => x.id == id) L with ⟨hf, _⟩ | ⟨k, x, hf, hx, _, _⟩
  · have HF := Lib.hid hf
    rw [hf] at HIX
    clear hf
    go_enter Tryz.func235, Tryz.ntmps235
    go_wp2_with (first
      | (go_at_call 317; (try simp only [protoC] at HWE HIX); rw [HWE.out]; (refine HIX.out.mono ?_); rintro e w9 ⟨rfl, k9⟩; have K9 := Lib.hid k9; have HR9 : Hid (w9.heap[w.heap.size + 1 + 1]? = some (.cells (protoC ⟨0, ⟨#[]⟩, 0, 0, 0⟩).toArray 133 (0, 0))) := Lib.hid ((k9.block _ (lt_of_block HR.out) (fun h => h)).trans HR.out); clear k9)
      | (refine wpList_alloc_at 9 rfl HZ.out rfl rfl ?_; intro W1 B1 hb1 hk1 _; have HB1 := Lib.hid hb1; have HK1 := Lib.hid hk1; have HR1 : Hid (W1.heap[w.heap.size + 1 + 1]? = some (.cells (protoC ⟨0, ⟨#[]⟩, 0, 0, 0⟩).toArray 133 (0, 0))) := Lib.hid ((hk1.block _ (lt_of_block HR9.out) (fun h => h)).trans HR9.out); clear hb1 hk1; simp only [Act.put, List.setIfInBounds_toArray, List.set_cons_succ, List.set_cons_zero])
      | (refine Cd.wpList_load_arr (C := Z) Tryz.underlying133 rfl (by rw [HZS.out]; exact HI9.out) rfl (.tmp 9) rfl B1 rfl HB1.out ?_; simp only [Act.put, List.setIfInBounds_toArray, List.set_cons_succ, List.set_cons_zero])
      | (refine Cd.wpList_store_arr (by rw [HZS.out]; exact HI9.out) (by rw [HZS.out]; rfl) (by rw [HZE.out]; simp [protoC, Value.oneCell']) rfl (.tmp 6) (.tmp 15) rfl (w.heap.size + 1 + 1) rfl rfl HR1.out ?_; intro ws hws kss hss; have HW := Lib.hid hws; have HKS := Lib.hid kss; clear hws kss hss; simp only [Act.put]))
    refine bodyPost_ret (Cd.results_arr Tryz.results235 _ _ (w.heap.size + 1 + 1) rfl HW.out Tryz.underlying133 rfl (by rw [HZS.out]; exact HI9.out)) rfl ?_
    refine ⟨.inr ⟨HF.out, by rw [HZE.out]; rfl⟩, ?_⟩
    exact (((HK.out.trans K9.out (fun _ h => h.elim)).trans HK1.out (fun _ h => h.elim)).trans HKS.out (fun b hb => .inr (by omega)))
  · have HF := Lib.hid hf
    have HX := Lib.hid hx
    have hlt : k < L.length := (List.getElem?_eq_some_iff.1 hx).1
    have hd1 : decide (k < L.length) = true := by simpa using hlt
    have hneg : decide ((k : Int) < 0) = false := by rw [decide_eq_false_iff_not]; omega
    obtain ⟨g1, off, rfl, hg, q⟩ := HC.out.resolve_left (by omega)
    have hrg := seen_range protoC_len HK.out hg q hx
    have HQ : Hid (∀ w', Keep (fun _ => False) W0 w' → w'.rangeAt g1 (off + k * 5) (protoC x)) := Lib.hid (fun w' k' => range_keep hrg k' (Nat.lt_of_lt_of_le hg HK.out.size) (fun h => h))
    have HGW : Hid (g1 < W0.heap.size) := Lib.hid (Nat.lt_of_lt_of_le hg HK.out.size)
    rw [hf] at HIX
    clear hf hx hrg q hg HC
    go_enter Tryz.func235, Tryz.ntmps235
    go_wp2_with (first
      | (go_at_call 317; (try simp only [protoC] at HWE HIX); rw [HWE.out]; (refine HIX.out.mono ?_); rintro e w9 ⟨rfl, k9⟩; have K9 := Lib.hid k9; have HR9 : Hid (w9.heap[w.heap.size + 1 + 1]? = some (.cells (protoC ⟨0, ⟨#[]⟩, 0, 0, 0⟩).toArray 133 (0, 0))) := Lib.hid ((k9.block _ (lt_of_block HR.out) (fun h => h)).trans HR.out); have q0 : w9.cell? ⟨g1, off + k * 5, none⟩ = some (.int .i64 x.id) := HQ.out w9 K9.out 0 _ rfl; have q1 : w9.cell? ⟨g1, off + k * 5 + 1, none⟩ = some (.string x.name) := HQ.out w9 K9.out 1 _ rfl; have q2 : w9.cell? ⟨g1, off + k * 5 + 2, none⟩ = some (.int .i64 x.slot) := HQ.out w9 K9.out 2 _ rfl; have q3 : w9.cell? ⟨g1, off + k * 5 + 3, none⟩ = some (.int .i64 x.power) := HQ.out w9 K9.out 3 _ rfl; have q4 : w9.cell? ⟨g1, off + k * 5 + 4, none⟩ = some (.int .i64 x.price) := HQ.out w9 K9.out 4 _ rfl; clear k9)
      | (refine Cd.wpList_store_arr (C := (protoC x).toArray) HI9.out (by rfl) (by simp [protoC, Value.oneCell']) rfl (.tmp 6) (.tmp 19) rfl (w.heap.size + 1 + 1) rfl rfl HR9.out ?_; intro ws hws kss hss; have HW := Lib.hid hws; have HKS := Lib.hid kss; clear hws kss hss; simp only [Act.put]))
    refine bodyPost_ret (Cd.results_arr Tryz.results235 _ _ (w.heap.size + 1 + 1) rfl HW.out Tryz.underlying133 rfl HI9.out) rfl ?_
    refine ⟨.inl ⟨k, x, HF.out, HX.out, rfl⟩, ?_⟩
    exact ((HK.out.trans K9.out (fun _ h => h.elim)).trans HKS.out (fun b hb => .inr (by omega)))
theorem fndProto_one (L : List ProtoM) (id : Int) : ∃ (C9 : Array Value) (b9 : Bool), FndProto L id (.returned (.tuple #[.agg C9, .bool b9])) ∧ (∀ e, FndProto L id e → e = .returned (.tuple #[.agg C9, .bool b9])) ∧ C9.size = 5 ∧ C9.all (·.oneCell') = true ∧ b9 = decide (0 ≤ findI (fun x : ProtoM => x.id == id) L) := by
  rcases findI_cases (fun x : ProtoM => x.id == id) L with ⟨hf, _⟩ | ⟨k, x, hf, hx, _, _⟩
  · refine ⟨(protoC ⟨0, ⟨#[]⟩, 0, 0, 0⟩).toArray, false, .inr ⟨hf, rfl⟩, fun e he => ?_, rfl, by simp [protoC, Value.oneCell'], by rw [hf]; rfl⟩
    rcases he with ⟨k, x, h1, _⟩ | ⟨_, h⟩
    · rw [hf] at h1; omega
    · exact h
  · refine ⟨(protoC x).toArray, true, .inl ⟨k, x, hf, hx, rfl⟩, fun e he => ?_, rfl, by simp [protoC, Value.oneCell'], by rw [hf]; symm; rw [decide_eq_true_eq]; omega⟩
    rcases he with ⟨k', x', h1, h2, h3⟩ | ⟨h1, _⟩
    · have : k' = k := by omega
      subst this
      rw [hx] at h2; cases h2
      exact h3
    · rw [hf] at h1; omega
set_option maxHeartbeats 4000000 in
theorem ProtoF_any {P : Nat → Prop} {w : World} {d : Nat} {D : DbM} (h : DbAt P w d 0 D) (id : Int) : Calls Tryz.prog 144 #[.pointer (some ⟨d, 0, none⟩), .int .i64 id] w fun e w' => FndProto D.protos id e ∧ Keep (fun _ => False) w w' := by
  obtain ⟨v1, v2, v3, v4, v5, v6, rr, ss, hd, hr, h1, h2, _⟩ := h.ex
  have p1 : w.cell? ⟨d, 1, none⟩ = some v2 := hr 1 _ rfl
  obtain ⟨C9, b9, HF9, HU9, HS9, HO9, -⟩ := fndProto_one D.protos id
  have HFIND : Hid (∀ W, Keep (fun _ => False) w W → Calls Tryz.prog 235 #[v2, .func (.func 187) #[] #[], .int .i64 id] W fun e w' => e = .returned (.tuple #[.agg C9, .bool b9]) ∧ Keep (fun _ => False) W w') := Lib.hid (fun W k => (findProto_any ((h2.row.seen).keep k (fun _ _ _ h => h)) id).mono fun e w' hh => ⟨HU9 e hh.1, hh.2⟩)
  have HFR : Hid (∀ e, e = .returned (.tuple #[.agg C9, .bool b9]) → FndProto D.protos id e) := Lib.hid (fun e he => he ▸ HF9)
  have HP : Hid (∀ W, Keep (fun _ => False) w W → W.cell? ⟨d, 1, none⟩ = some v2) := Lib.hid (fun W k => (k.cell hd (fun h => h) _).trans p1)
  have HS := Lib.hid HS9
  have HO := Lib.hid HO9
  obtain ⟨Z, HZ, HZS, HZE⟩ := zFProto
  have HI9 := Lib.hid Tryz.infoFProto
  clear h hr h1 h2 HF9 HU9 HS9 HO9 p1
  go_enter Tryz.func144, Tryz.ntmps144
  go_wp2_with (first
    | (refine wpList_alloc_at 4 rfl HZ.out rfl rfl ?_; intro W1 B1 hb1 hk1 hbs; have HB1 := Lib.hid hb1; have HK1 := Lib.hid hk1; have HBS := Lib.hid hbs; clear hbs; have c1 := HP.out W1 hk1; clear hb1 hk1; simp only [Act.put, List.setIfInBounds_toArray, List.set_cons_succ, List.set_cons_zero])
    | (go_at_call 235; (with_reducible refine (HFIND.out _ HK1.out).mono ?_); rintro e w9 ⟨rfl, k9⟩; have K9 := Lib.hid k9; have HB9 : Hid (w9.heap[B1]? = some (.cells Z 133 (0, 0))) := Lib.hid ((k9.block _ (lt_of_block HB1.out) (fun h => h)).trans HB1.out); clear k9)
    | (refine Cd.wpList_store_arr (C := C9) (by rw [HS.out]; exact HI9.out) (by rw [HZS.out, HS.out]) HO.out rfl (.tmp 4) (.tmp 15) rfl B1 rfl rfl HB9.out ?_; intro ws hws kss hss; have HW := Lib.hid hws; have HKS := Lib.hid kss; clear hws kss hss; simp only [Act.put]))
  refine bodyPost_ret (Cd.results_arr Tryz.results144 _ _ B1 rfl HW.out Tryz.underlying133 rfl (by rw [HS.out]; exact HI9.out)) rfl ?_
  exact ⟨HFR.out _ rfl, (HK1.out.trans K9.out (fun _ h => h.elim)).trans HKS.out (fun b hb => .inr (by have := HBS.out; omega))⟩
set_option maxHeartbeats 4000000 in
theorem hasProto_any {P : Nat → Prop} {w : World} {d : Nat} {D : DbM} (h : DbAt P w d 0 D) (id : Int) : Calls Tryz.prog 209 #[.pointer (some ⟨d, 0, none⟩), .int .i64 id] w fun e w' => e = .returned (.bool (hasProto D id)) ∧ Keep (fun _ => False) w w' := by
  obtain ⟨C9, b9, -, HU9, HS9, HO9, hb⟩ := fndProto_one D.protos id
  have hb2 : hasProto D id = b9 := by rw [hb]; rfl
  rw [hb2]
  have HFIND : Hid (Calls Tryz.prog 144 #[.pointer (some ⟨d, 0, none⟩), .int .i64 id] w fun e w' => e = .returned (.tuple #[.agg C9, .bool b9]) ∧ Keep (fun _ => False) w w') := Lib.hid ((ProtoF_any h id).mono fun e w' hh => ⟨HU9 e hh.1, hh.2⟩)
  have HS := Lib.hid HS9
  have HO := Lib.hid HO9
  obtain ⟨Z, HZ, HZS, HZE⟩ := zFProto
  have HI9 := Lib.hid Tryz.infoFProto
  clear h HU9 HS9 HO9 hb hb2
  go_enter Tryz.func209, Tryz.ntmps209
  go_wp2_with (first
    | (go_at_call 144; (with_reducible refine HFIND.out.mono ?_); rintro e w9 ⟨rfl, k9⟩; have K9 := Lib.hid k9; clear k9)
    | (refine wpList_var_any (C := C9) HZ.out (by rw [HS.out]; exact HI9.out) (by rw [HZS.out, HS.out]) HO.out rfl rfl rfl (.tmp 5) (.tmp 11) rfl rfl rfl ?_; intro W1 B1 hb1 hk1; have HK1 := Lib.hid hk1; clear hb1 hk1; simp only [Act.put, List.setIfInBounds_toArray, List.set_cons_succ, List.set_cons_zero]))
  go_ret
  exact ⟨rfl, K9.out.trans HK1.out (fun _ h => h.elim)⟩
end Go.Proofs.YtheaghgockafmaaGreat.Wd
