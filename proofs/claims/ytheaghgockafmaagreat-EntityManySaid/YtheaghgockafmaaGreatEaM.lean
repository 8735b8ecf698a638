/- World files: the program's find and Mob (made by tools/genea.py). -/
import Derived.Test.YtheaghgockafmaaGreatDcF
namespace Go.Proofs.YtheaghgockafmaaGreat.Wd
open Go.RowKit Go.Maps Go.Proofs.YtheaghgockafmaaGreat Go.Proofs.YtheaghgockafmaaGreat.Lin Go.Sort
set_option maxRecDepth 100000

set_option maxHeartbeats 4000000 in
theorem indexFMobP_any {w : World} {v : Value} {L : List MobPM} (h : Seen w 7 v L.length (flat mobpC L)) (p : MobPM → Bool) {g : Nat} {lb : Array Value} (eg : ∀ args w, (callFunc g args).run Tryz.prog w = .ok (.enter g args) w)
    (hp : ∀ x ∈ L, ∀ w', Keep (fun _ => False) w w' → Calls Tryz.prog g (#[.agg (mobpC x).toArray] ++ lb) w' fun e w'' => e = .returned (.bool (p x)) ∧ Keep (fun _ => False) w' w'') :
    Calls Tryz.prog 319 #[v, .func (.func g) #[] lb] w fun e w' => e = .returned (.int .i64 (findI p L)) ∧ Keep (fun _ => False) w w' := by
  obtain ⟨_, a, cap, rfl, hc1, hc2, hcell⟩ := h
  unfold maxLen at hc2
  have HC := Lib.hid hcell; have HP := Lib.hid hp
  clear hcell hp
  go_enter Tryz.func319, Tryz.ntmps319
  go_wp2
  go_loopw [5, 8] (fun _ iv wr => IxR p L w iv wr) (fun _ iv _ => L.length - (intOf iv).toNat)
  case atStart => exact ⟨0, by omega, rfl, fun j a hj => by omega, Keep.refl _ _⟩
  case round =>
    obtain ⟨k, hk, rfl, hall, hK⟩ := hrel.ex
    have HA := Lib.hid hall; have HK := Lib.hid hK
    clear hall hK hrel
    by_cases hlt : k < L.length
    · have hd1 : decide (k < L.length) = true := by simpa using hlt
      obtain ⟨x, hx⟩ : ∃ x, L[k]? = some x := ⟨_, List.getElem?_eq_getElem hlt⟩
      obtain ⟨g1, off, rfl, hg, q⟩ := HC.out.resolve_left (by omega)
      have hrg := seen_range mobpC_len HK.out hg q hx
      have q0 : wr.cell? ⟨g1, off + k * 7, none⟩ = some (.int .i64 x.id) := hrg 0 _ rfl
      have q1 : wr.cell? ⟨g1, off + k * 7 + 1, none⟩ = some (.string x.name) := hrg 1 _ rfl
      have q2 : wr.cell? ⟨g1, off + k * 7 + 2, none⟩ = some (.int .i64 x.home) := hrg 2 _ rfl
      have q3 : wr.cell? ⟨g1, off + k * 7 + 3, none⟩ = some (.int .i64 x.hp) := hrg 3 _ rfl
      have q4 : wr.cell? ⟨g1, off + k * 7 + 4, none⟩ = some (.int .i64 x.power) := hrg 4 _ rfl
      have q5 : wr.cell? ⟨g1, off + k * 7 + 5, none⟩ = some (.int .i64 x.xp) := hrg 5 _ rfl
      have q6 : wr.cell? ⟨g1, off + k * 7 + 6, none⟩ = some (.int .i64 x.gold) := hrg 6 _ rfl
      have hm := List.mem_of_getElem? hx
      have HX := Lib.hid hx
      have HCL : Hid (Calls Tryz.prog g (#[.agg #[.int .i64 x.id, .string x.name, .int .i64 x.home, .int .i64 x.hp, .int .i64 x.power, .int .i64 x.xp, .int .i64 x.gold]] ++ lb) wr fun e w'' => e = .returned (.bool (p x)) ∧ Keep (fun _ => False) wr w'') := Lib.hid (HP.out x hm wr HK.out)
      clear hrg hx q hm
      cases hpx : p x with
      | true =>
        have HPX := Lib.hid hpx
        rw [hpx] at HCL
        clear hpx
        go_wp2_with (go_at_fn g; (refine HCL.out.mono ?_); rintro e w9 ⟨rfl, k9⟩; have K9 := Lib.hid k9; clear k9)
        go_ret
        exact ⟨by rw [findI_at HA.out HX.out HPX.out]; rfl, HK.out.trans K9.out (fun _ h => h.elim)⟩
      | false =>
        have HPX := Lib.hid hpx
        rw [hpx] at HCL
        clear hpx
        go_wp2_with (go_at_fn g; (refine HCL.out.mono ?_); rintro e w9 ⟨rfl, k9⟩; have K9 := Lib.hid k9; clear k9)
        go_roundw
        case rel => exact ⟨k + 1, by omega, by go_num, scan_next HA.out HX.out HPX.out, HK.out.trans K9.out (fun _ h => h.elim)⟩
        case measure => simp [intOf]; omega
    · have hd1 : decide (k < L.length) = false := by rw [decide_eq_false_iff_not]; omega
      have HF := Lib.hid (findI_none (scan_end HA.out (by omega)))
      go_wp2
      go_ret
      exact ⟨by rw [HF.out]; rfl, HK.out⟩
set_option maxHeartbeats 4000000 in
theorem findCMobP_any {W : World} {q1 q2 : Nat} {id : Int} (hq : W.cell? ⟨q1, 0, none⟩ = some (.func (.func 190) #[] #[])) (hq2 : W.cell? ⟨q2, 0, none⟩ = some (.int .i64 id)) (x : MobPM) :
    Calls Tryz.prog 320 #[.agg (mobpC x).toArray, .pointer (some ⟨q1, 0, none⟩), .pointer (some ⟨q2, 0, none⟩)] W fun e w' => e = .returned (.bool (x.id == id)) ∧ Keep (fun _ => False) W w' := by
  have hql : q1 < W.heap.size := cell_lt hq
  have hql2 : q2 < W.heap.size := cell_lt hq2
  obtain ⟨W2, hW2⟩ : ∃ W2, W2 = W.alloc (.cells #[.int .i64 x.id, .string x.name, .int .i64 x.home, .int .i64 x.hp, .int .i64 x.power, .int .i64 x.xp, .int .i64 x.gold] 105) := ⟨_, rfl⟩
  have hk : Keep (fun _ => False) W W2 := by rw [hW2]; exact (Keep.refl _ W).alloc _
  have HX : Hid (W2.heap[W.heap.size]? = some (.cells #[.int .i64 x.id, .string x.name, .int .i64 x.home, .int .i64 x.hp, .int .i64 x.power, .int .i64 x.xp, .int .i64 x.gold] 105 (0, 0))) := Lib.hid (by rw [hW2]; exact heap_alloc_new W _)
  have HL3 : Hid (W.heap.size < W2.heap.size) := Lib.hid (lt_of_block HX.out)
  have qq := fun n os => cell_grown (w := W2) (a := ⟨q1, 0, none⟩) (Nat.lt_of_lt_of_le hql hk.size) ((hk.cell hql (fun h => h) 0).trans hq) n os
  have qq2 := fun n os => cell_grown (w := W2) (a := ⟨q2, 0, none⟩) (Nat.lt_of_lt_of_le hql2 hk.size) ((hk.cell hql2 (fun h => h) 0).trans hq2) n os
  have HK := Lib.hid hk
  have mixed := Tryz.mixedO
  simp only [mobpC]
  clear hq hq2 hk
  go_enter Tryz.func320, Tryz.ntmps320
  go_wp2
  rw [← hW2]
  clear hW2
  generalize hb3 : W.heap.size = b3 at *
  have x0 := fun n os => cell_grown (w := W2) (a := ⟨b3, 0, none⟩) (v := .int .i64 x.id) HL3.out (((cell_of_row W2 b3 0 _ _ _ HX.out).trans rfl)) n os
  have x1 := fun n os => cell_grown (w := W2) (a := ⟨b3, 1, none⟩) (v := .string x.name) HL3.out (((cell_of_row W2 b3 1 _ _ _ HX.out).trans rfl)) n os
  have x2 := fun n os => cell_grown (w := W2) (a := ⟨b3, 2, none⟩) (v := .int .i64 x.home) HL3.out (((cell_of_row W2 b3 2 _ _ _ HX.out).trans rfl)) n os
  have x3 := fun n os => cell_grown (w := W2) (a := ⟨b3, 3, none⟩) (v := .int .i64 x.hp) HL3.out (((cell_of_row W2 b3 3 _ _ _ HX.out).trans rfl)) n os
  have x4 := fun n os => cell_grown (w := W2) (a := ⟨b3, 4, none⟩) (v := .int .i64 x.power) HL3.out (((cell_of_row W2 b3 4 _ _ _ HX.out).trans rfl)) n os
  have x5 := fun n os => cell_grown (w := W2) (a := ⟨b3, 5, none⟩) (v := .int .i64 x.xp) HL3.out (((cell_of_row W2 b3 5 _ _ _ HX.out).trans rfl)) n os
  have x6 := fun n os => cell_grown (w := W2) (a := ⟨b3, 6, none⟩) (v := .int .i64 x.gold) HL3.out (((cell_of_row W2 b3 6 _ _ _ HX.out).trans rfl)) n os
  go_quiet_grown (first | (go_at_call 190; exact Calls.grown_of (mobId_any _)))
  go_wp2
  go_ret
  exact ⟨rfl, HK.out.trans (keep_grown nq osq) (fun _ h => h.elim)⟩
theorem Tryz.en_findCMobP : ∀ args w, (callFunc 320 args).run Tryz.prog w = .ok (.enter 320 args) w := enters_of Tryz.func320 (by kernel_rfl) rfl
/-- A row of that number, or none. -/
def FndMobP (L : List MobPM) (id : Int) (e : Ending) : Prop :=
  (∃ k x, findI (fun x : MobPM => x.id == id) L = ((k : Nat) : Int) ∧ L[k]? = some x ∧ e = .returned (.tuple #[.agg (mobpC x).toArray, .bool true])) ∨ (findI (fun x : MobPM => x.id == id) L = -1 ∧ e = .returned (.tuple #[.agg (mobpC ⟨0, ⟨#[]⟩, 0, 0, 0, 0, 0⟩).toArray, .bool false]))
theorem zFMobP : ∃ Z : Array Value, Hid (∀ w : World, (zeroValue 105).run Tryz.prog w = .ok (.agg Z) w) ∧ Hid (Z.size = 7) ∧ Hid (Z = (mobpC ⟨0, ⟨#[]⟩, 0, 0, 0, 0, 0⟩).toArray) :=
  ⟨(mobpC ⟨0, ⟨#[]⟩, 0, 0, 0, 0, 0⟩).toArray, Lib.hid (fun w => by kernel_rfl), Lib.hid rfl, Lib.hid rfl⟩
theorem Tryz.infoFMobP : (Tryz.prog.info? 105).map (·.size) = some 7 := by kernel_rfl
set_option maxHeartbeats 8000000 in
theorem findMobP_any {w : World} {v : Value} {L : List MobPM} (h : Seen w 7 v L.length (flat mobpC L)) (id : Int) :
    Calls Tryz.prog 239 #[v, .func (.func 190) #[] #[], .int .i64 id] w fun e w' => FndMobP L id e ∧ Keep (fun _ => False) w w' := by
  obtain ⟨W0, hW0⟩ : ∃ W0, W0 = ((w.alloc (.cells #[.func (.func 190) #[] #[]] 220)).alloc (.cells #[.int .i64 id] 3)).alloc (.cells (mobpC ⟨0, ⟨#[]⟩, 0, 0, 0, 0, 0⟩).toArray 105) := ⟨_, rfl⟩
  have hk : Keep (fun _ => False) w W0 := by rw [hW0]; exact (((Keep.refl _ w).alloc _).alloc _).alloc _
  have hq1 : W0.cell? ⟨w.heap.size, 0, none⟩ = some (.func (.func 190) #[] #[]) := by
    rw [hW0, ((((Keep.refl (fun _ => False) (w.alloc (.cells #[.func (.func 190) #[] #[]] 220))).alloc (.cells #[.int .i64 id] 3)).alloc (.cells (mobpC ⟨0, ⟨#[]⟩, 0, 0, 0, 0, 0⟩).toArray 105))).cell (by simp) (fun h => h), cell_of_row _ _ _ _ _ _ (heap_alloc_new w _)]; rfl
  have hq2 : W0.cell? ⟨w.heap.size + 1, 0, none⟩ = some (.int .i64 id) := by
    have h1 := heap_alloc_new (w.alloc (.cells #[.func (.func 190) #[] #[]] 220)) (.cells #[.int .i64 id] 3)
    rw [hW0, ((Keep.refl (fun _ => False) ((w.alloc (.cells #[.func (.func 190) #[] #[]] 220)).alloc (.cells #[.int .i64 id] 3))).alloc (.cells (mobpC ⟨0, ⟨#[]⟩, 0, 0, 0, 0, 0⟩).toArray 105)).cell (by simp) (fun h => h)]
    rw [show (w.alloc (.cells #[.func (.func 190) #[] #[]] 220)).heap.size = w.heap.size + 1 by simp] at h1
    rw [cell_of_row _ _ _ _ _ _ h1]; rfl
  have hres : W0.heap[w.heap.size + 1 + 1]? = some (.cells (mobpC ⟨0, ⟨#[]⟩, 0, 0, 0, 0, 0⟩).toArray 105 (0, 0)) := by
    have h1 := heap_alloc_new ((w.alloc (.cells #[.func (.func 190) #[] #[]] 220)).alloc (.cells #[.int .i64 id] 3)) (.cells (mobpC ⟨0, ⟨#[]⟩, 0, 0, 0, 0, 0⟩).toArray 105)
    rw [hW0]
    simpa using h1
  have hix := indexFMobP_any (h.keep hk (fun _ _ _ h => h)) (fun x : MobPM => x.id == id) (lb := #[.pointer (some ⟨w.heap.size, 0, none⟩), .pointer (some ⟨w.heap.size + 1, 0, none⟩)]) Tryz.en_findCMobP (fun x _ w' k' => findCMobP_any ((k'.cell (cell_lt hq1) (fun h => h) _).trans hq1) ((k'.cell (cell_lt hq2) (fun h => h) _).trans hq2) x)
  have HS : Hid (∀ w', Keep (fun _ => False) W0 w' → Seen w' 7 v L.length (flat mobpC L)) := Lib.hid (fun w' k' => (h.keep hk (fun _ _ _ h => h)).keep k' (fun _ _ _ h => h))
  obtain ⟨_, a, cap, rfl, hc1, hc2, hcell⟩ := h
  unfold maxLen at hc2
  have HC := Lib.hid hcell
  have HIX := Lib.hid hix
  have HK := Lib.hid hk
  have HR := Lib.hid hres
  have HWE := Lib.hid hW0.symm
  obtain ⟨Z, HZ, HZS, HZE⟩ := zFMobP
  have HI9 := Lib.hid Tryz.infoFMobP
  clear hcell hix hk hres hW0 hq1 hq2
  rcases findI_cases (fun x : MobPM => x.id == id) L with ⟨hf, _⟩ | ⟨k, x, hf, hx, _, _⟩
  · have HF := Lib.hid hf
    rw [hf] at HIX
    clear hf
    go_enter Tryz.func239, Tryz.ntmps239
    go_wp2_with (first
      | (go_at_call 319; (try simp only [mobpC] at HWE HIX); rw [HWE.out]; (refine HIX.out.mono ?_); rintro e w9 ⟨rfl, k9⟩; have K9 := Lib.hid k9; have HR9 : Hid (w9.heap[w.heap.size + 1 + 1]? = some (.cells (mobpC ⟨0, ⟨#[]⟩, 0, 0, 0, 0, 0⟩).toArray 105 (0, 0))) := Lib.hid ((k9.block _ (lt_of_block HR.out) (fun h => h)).trans HR.out); clear k9)
      | (refine wpList_alloc_at 9 rfl HZ.out rfl rfl ?_; intro W1 B1 hb1 hk1 _; have HB1 := Lib.hid hb1; have HK1 := Lib.hid hk1; have HR1 : Hid (W1.heap[w.heap.size + 1 + 1]? = some (.cells (mobpC ⟨0, ⟨#[]⟩, 0, 0, 0, 0, 0⟩).toArray 105 (0, 0))) := Lib.hid ((hk1.block _ (lt_of_block HR9.out) (fun h => h)).trans HR9.out); clear hb1 hk1; simp only [Act.put, List.setIfInBounds_toArray, List.set_cons_succ, List.set_cons_zero])
      | (refine Cd.wpList_load_arr (C := Z) Tryz.underlying105 rfl (by rw [HZS.out]; exact HI9.out) rfl (.tmp 9) rfl B1 rfl HB1.out ?_; simp only [Act.put, List.setIfInBounds_toArray, List.set_cons_succ, List.set_cons_zero])
      | (refine Cd.wpList_store_arr (by rw [HZS.out]; exact HI9.out) (by rw [HZS.out]; rfl) (by rw [HZE.out]; simp [mobpC, Value.oneCell']) rfl (.tmp 6) (.tmp 15) rfl (w.heap.size + 1 + 1) rfl rfl HR1.out ?_; intro ws hws kss hss; have HW := Lib.hid hws; have HKS := Lib.hid kss; clear hws kss hss; simp only [Act.put]))
    refine bodyPost_ret (Cd.results_arr Tryz.results239 _ _ (w.heap.size + 1 + 1) rfl HW.out Tryz.underlying105 rfl (by rw [HZS.out]; exact HI9.out)) rfl ?_
    refine ⟨.inr ⟨HF.out, by rw [HZE.out]; rfl⟩, ?_⟩
    exact (((HK.out.trans K9.out (fun _ h => h.elim)).trans HK1.out (fun _ h => h.elim)).trans HKS.out (fun b hb => .inr (by omega)))
  · have HF := Lib.hid hf
    have HX := Lib.hid hx
    have hlt : k < L.length := (List.getElem?_eq_some_iff.1 hx).1
    have hd1 : decide (k < L.length) = true := by simpa using hlt
    have hneg : decide ((k : Int) < 0) = false := by rw [decide_eq_false_iff_not]; omega
    obtain ⟨g1, off, rfl, hg, q⟩ := HC.out.resolve_left (by omega)
    have hrg := seen_range mobpC_len HK.out hg q hx
    have HQ : Hid (∀ w', Keep (fun _ => False) W0 w' → w'.rangeAt g1 (off + k * 7) (mobpC x)) := Lib.hid (fun w' k' => range_keep hrg k' (Nat.lt_of_lt_of_le hg HK.out.size) (fun h => h))
    have HGW : Hid (g1 < W0.heap.size) := Lib.hid (Nat.lt_of_lt_of_le hg HK.out.size)
    rw [hf] at HIX
    clear hf hx hrg q hg HC
    go_enter Tryz.func239, Tryz.ntmps239
    go_wp2_with (first
      | (go_at_call 319; (try simp only [mobpC] at HWE HIX); rw [HWE.out]; (refine HIX.out.mono ?_); rintro e w9 ⟨rfl, k9⟩; have K9 := Lib.hid k9; have HR9 : Hid (w9.heap[w.heap.size + 1 + 1]? = some (.cells (mobpC ⟨0, ⟨#[]⟩, 0, 0, 0, 0, 0⟩).toArray 105 (0, 0))) := Lib.hid ((k9.block _ (lt_of_block HR.out) (fun h => h)).trans HR.out); have q0 : w9.cell? ⟨g1, off + k * 7, none⟩ = some (.int .i64 x.id) := HQ.out w9 K9.out 0 _ rfl; have q1 : w9.cell? ⟨g1, off + k * 7 + 1, none⟩ = some (.string x.name) := HQ.out w9 K9.out 1 _ rfl; have q2 : w9.cell? ⟨g1, off + k * 7 + 2, none⟩ = some (.int .i64 x.home) := HQ.out w9 K9.out 2 _ rfl; have q3 : w9.cell? ⟨g1, off + k * 7 + 3, none⟩ = some (.int .i64 x.hp) := HQ.out w9 K9.out 3 _ rfl; have q4 : w9.cell? ⟨g1, off + k * 7 + 4, none⟩ = some (.int .i64 x.power) := HQ.out w9 K9.out 4 _ rfl; have q5 : w9.cell? ⟨g1, off + k * 7 + 5, none⟩ = some (.int .i64 x.xp) := HQ.out w9 K9.out 5 _ rfl; have q6 : w9.cell? ⟨g1, off + k * 7 + 6, none⟩ = some (.int .i64 x.gold) := HQ.out w9 K9.out 6 _ rfl; clear k9)
      | (refine Cd.wpList_store_arr (C := (mobpC x).toArray) HI9.out (by rfl) (by simp [mobpC, Value.oneCell']) rfl (.tmp 6) (.tmp 19) rfl (w.heap.size + 1 + 1) rfl rfl HR9.out ?_; intro ws hws kss hss; have HW := Lib.hid hws; have HKS := Lib.hid kss; clear hws kss hss; simp only [Act.put]))
    refine bodyPost_ret (Cd.results_arr Tryz.results239 _ _ (w.heap.size + 1 + 1) rfl HW.out Tryz.underlying105 rfl HI9.out) rfl ?_
    refine ⟨.inl ⟨k, x, HF.out, HX.out, rfl⟩, ?_⟩
    exact ((HK.out.trans K9.out (fun _ h => h.elim)).trans HKS.out (fun b hb => .inr (by omega)))
theorem fndMobP_one (L : List MobPM) (id : Int) : ∃ (C9 : Array Value) (b9 : Bool), FndMobP L id (.returned (.tuple #[.agg C9, .bool b9])) ∧ (∀ e, FndMobP L id e → e = .returned (.tuple #[.agg C9, .bool b9])) ∧ C9.size = 7 ∧ C9.all (·.oneCell') = true ∧ b9 = decide (0 ≤ findI (fun x : MobPM => x.id == id) L) := by
  rcases findI_cases (fun x : MobPM => x.id == id) L with ⟨hf, _⟩ | ⟨k, x, hf, hx, _, _⟩
  · refine ⟨(mobpC ⟨0, ⟨#[]⟩, 0, 0, 0, 0, 0⟩).toArray, false, .inr ⟨hf, rfl⟩, fun e he => ?_, rfl, by simp [mobpC, Value.oneCell'], by rw [hf]; rfl⟩
    rcases he with ⟨k, x, h1, _⟩ | ⟨_, h⟩
    · rw [hf] at h1; omega
    · exact h
  · refine ⟨(mobpC x).toArray, true, .inl ⟨k, x, hf, hx, rfl⟩, fun e he => ?_, rfl, by simp [mobpC, Value.oneCell'], by rw [hf]; symm; rw [decide_eq_true_eq]; omega⟩
    rcases he with ⟨k', x', h1, h2, h3⟩ | ⟨h1, _⟩
    · have : k' = k := by omega
      subst this
      rw [hx] at h2; cases h2
      exact h3
    · rw [hf] at h1; omega
set_option maxHeartbeats 4000000 in
theorem MobPF_any {P : Nat → Prop} {w : World} {d : Nat} {D : DbM} (h : DbAt P w d 0 D) (id : Int) : Calls Tryz.prog 149 #[.pointer (some ⟨d, 0, none⟩), .int .i64 id] w fun e w' => FndMobP D.mobs id e ∧ Keep (fun _ => False) w w' := by
  obtain ⟨v1, v2, v3, v4, v5, v6, rr, ss, hd, hr, h1, h2, h3, _⟩ := h.ex
  have p1 : w.cell? ⟨d, 2, none⟩ = some v3 := hr 2 _ rfl
  obtain ⟨C9, b9, HF9, HU9, HS9, HO9, -⟩ := fndMobP_one D.mobs id
  have HFIND : Hid (∀ W, Keep (fun _ => False) w W → Calls Tryz.prog 239 #[v3, .func (.func 190) #[] #[], .int .i64 id] W fun e w' => e = .returned (.tuple #[.agg C9, .bool b9]) ∧ Keep (fun _ => False) W w') := Lib.hid (fun W k => (findMobP_any ((h3.row.seen).keep k (fun _ _ _ h => h)) id).mono fun e w' hh => ⟨HU9 e hh.1, hh.2⟩)
  have HFR : Hid (∀ e, e = .returned (.tuple #[.agg C9, .bool b9]) → FndMobP D.mobs id e) := Lib.hid (fun e he => he ▸ HF9)
  have HP : Hid (∀ W, Keep (fun _ => False) w W → W.cell? ⟨d, 2, none⟩ = some v3) := Lib.hid (fun W k => (k.cell hd (fun h => h) _).trans p1)
  have HS := Lib.hid HS9
  have HO := Lib.hid HO9
  obtain ⟨Z, HZ, HZS, HZE⟩ := zFMobP
  have HI9 := Lib.hid Tryz.infoFMobP
  clear h hr h1 h2 h3 HF9 HU9 HS9 HO9 p1
  go_enter Tryz.func149, Tryz.ntmps149
  go_wp2_with (first
    | (refine wpList_alloc_at 4 rfl HZ.out rfl rfl ?_; intro W1 B1 hb1 hk1 hbs; have HB1 := Lib.hid hb1; have HK1 := Lib.hid hk1; have HBS := Lib.hid hbs; clear hbs; have c1 := HP.out W1 hk1; clear hb1 hk1; simp only [Act.put, List.setIfInBounds_toArray, List.set_cons_succ, List.set_cons_zero])
    | (go_at_call 239; (with_reducible refine (HFIND.out _ HK1.out).mono ?_); rintro e w9 ⟨rfl, k9⟩; have K9 := Lib.hid k9; have HB9 : Hid (w9.heap[B1]? = some (.cells Z 105 (0, 0))) := Lib.hid ((k9.block _ (lt_of_block HB1.out) (fun h => h)).trans HB1.out); clear k9)
    | (refine Cd.wpList_store_arr (C := C9) (by rw [HS.out]; exact HI9.out) (by rw [HZS.out, HS.out]) HO.out rfl (.tmp 4) (.tmp 15) rfl B1 rfl rfl HB9.out ?_; intro ws hws kss hss; have HW := Lib.hid hws; have HKS := Lib.hid kss; clear hws kss hss; simp only [Act.put]))
  refine bodyPost_ret (Cd.results_arr Tryz.results149 _ _ B1 rfl HW.out Tryz.underlying105 rfl (by rw [HS.out]; exact HI9.out)) rfl ?_
  exact ⟨HFR.out _ rfl, (HK1.out.trans K9.out (fun _ h => h.elim)).trans HKS.out (fun b hb => .inr (by have := HBS.out; omega))⟩
end Go.Proofs.YtheaghgockafmaaGreat.Wd
