/- Put: a home sector waits. -/
import Derived.Test.YtibmillfankjfaaGreatDoorOpen
namespace Go.Proofs.YtibmillfankjfaaGreatDoor
open Go.RowKit
set_option maxRecDepth 100000

theorem run_load_bytes {w : World} {g off : Nat} {s : ByteArray} (hs : s.size = 512) (h : BytesAt w g off s.data.toList) : (loadVar 53 ⟨g, off, none⟩).run Tryz.prog w = .ok (secV s) w := by
  have hl : (byteCells s).length = 512 := by rw [byteCells_length]; exact hs
  have h1 : (loadCells ⟨g, off, none⟩ (byteCells s).length).run Tryz.prog w = .ok (byteCells s).toArray w :=
    run_loadCells_list (P := Tryz.prog) w ⟨g, off, none⟩ (byteCells s) (fun j v hv => by
      have hj : j < s.data.size := by
        have := (List.getElem?_eq_some_iff.1 hv).1
        rw [hl] at this
        rw [show s.data.size = 512 from hs]; exact this
      have hb := h j (by rw [Array.length_toList]; exact hj)
      rw [add_off, hb]
      rw [byteCells_get s j hj] at hv
      rw [← hv]
      rfl)
  rw [hl] at h1
  obtain ⟨i, hi, hsz⟩ := Option.map_eq_some_iff.1 Tryz.infoSec
  have hagg : (isAgg 53).run Tryz.prog w = .ok true w := by
    simp [isAgg, run_underlying Tryz.underlying53]
  simp only [loadVar, Sem.run_bind, hagg, Result.andThen_ok, if_true, sizeOf, typeInfo, run_program, hi, Sem.run_pure, hsz, h1]
  rfl

section
variable {ops : Array Oper} {o : Oper} {a : Act} {w : World} {K : Act → World → Prop} {Q : Exit → Act → World → Prop} {E : Prop}

theorem step_load_bytes (hg : o.guard = none) (x : Operand) (ho : o.op = .load 53 x) (g off : Nat) (s : ByteArray) (hs : s.size = 512) (hx : a.eval x = .pointer (some ⟨g, off, none⟩)) (hS : BytesAt w g off s.data.toList)
    (hK : K (a.put o.dst (secV s)) w) : if Region.wanted o (yielded ops a.tmps) = true then Oper.wp Tryz.prog o a w K Q else E := by
  have hw : Region.wanted o (yielded ops a.tmps) = true := by simp [Region.wanted, hg]
  rw [if_pos hw]
  unfold Oper.wp execOp
  simp only [ho, hx, Instr.loadAt, Instr.sureAddr, Sem.run_bind, Sem.run_pure, Result.andThen_ok, run_load_bytes hs hS]
  exact hK

theorem wpList_len_grp_g {rest : List Oper} (hw : Region.wanted o (yielded ops a.tmps) = true) (m : Operand) (ho : o.op = .call { callee := .builtin .len, args := #[m], argTypes := #[57] }) (b : Nat) (g : Grp) (hm : a.eval m = .map (some b)) (h : IsGrp w b g)
    (hK : wpList Tryz.prog ops Q rest (a.put o.dst (.int .i64 (g.length : Int))) w) : wpList Tryz.prog ops Q (o :: rest) a w := by
  refine wpList_wanted hw fun K' hK' => ?_
  unfold Oper.wp
  simp [execOp, ho, resolve, invoke, builtin, hm, h.len o.type, Result.andThen]
  exact hK' _ _ hK

theorem step_put_grp (hg : o.guard = none) (m x v : Operand) (ho : o.op = .mapUpdate 57 m x v) (b : Nat) (g : Grp) (i : Nat) (s : ByteArray) (hm : a.eval m = .map (some b)) (hx : a.eval x = .int .i64 (i : Int)) (hv : a.eval v = secV s)
    (h : IsGrp w b g) (hi : i < 65536) (hs : s.size = 512) (hn : g.length < 1000000)
    (hK : ∀ w', IsGrp w' b (gput g i s) → Keep (fun x => x = b) w w' → w'.heap.size = w.heap.size → K (a.put o.dst undef) w') : if Region.wanted o (yielded ops a.tmps) = true then Oper.wp Tryz.prog o a w K Q else E := by
  have hw : Region.wanted o (yielded ops a.tmps) = true := by simp [Region.wanted, hg]
  rw [if_pos hw]
  obtain ⟨w', hrun, r1, r2, r3⟩ := h.put i hi s hs hn
  unfold Oper.wp execOp
  simp only [ho, hm, hx, hv, Sem.run_bind, hrun, Result.andThen_ok, Sem.run_pure]
  exact hK w' r1 r2 r3

theorem step_load_cell (hg : o.guard = none) {ty : TypeId} (x : Operand) (ho : o.op = .load ty x) (ad : Addr) (v : Value) {d : TypeDesc} (hu : Tryz.prog.underlying ty = some d) (hd : (match d with | .struct _ | .array _ _ => true | _ => false) = false) (hx : a.eval x = .pointer (some ad)) (hc : w.cell? ad = some v)
    (hK : K (a.put o.dst v) w) : if Region.wanted o (yielded ops a.tmps) = true then Oper.wp Tryz.prog o a w K Q else E := by
  have hw : Region.wanted o (yielded ops a.tmps) = true := by simp [Region.wanted, hg]
  rw [if_pos hw]
  have hagg : (isAgg ty).run Tryz.prog w = .ok false w := by
    unfold isAgg
    rw [Sem.run_bind, run_underlying hu w]
    cases d <;> simp_all
  unfold Oper.wp execOp
  simp only [ho, hx, Instr.loadAt, Instr.sureAddr, loadVar, Sem.run_bind, Sem.run_pure, Result.andThen_ok, hagg]
  simp [go_sem, hc, Result.andThen]
  exact hK
end

theorem lput_nil {w : World} (i : Int) (v : Value) :
    Calls Tryz.prog 10 #[.pointer none, .int .i64 i, v] w fun e w' => e = .returned (apiErr 1) ∧ w = w' := by
  go_enter Tryz.func10, Tryz.ntmps10
  go_wp2_with (go_at_call 32; refine (lhas_nil _).mono ?_; rintro e w' ⟨rfl, rfl⟩)
  go_ret
  exact ⟨rfl, rfl⟩

theorem lput_out {w : World} {F : Nat → Prop} {p q a b c : Nat} {S : LogS} {n : Nat} (h : IsLog w F p q a b c S n) (i : Int) (hi : homeB S.D.las.length i = false) (v : Value) :
    Calls Tryz.prog 10 #[.pointer (some ⟨q, 0, none⟩), .int .i64 i, v] w fun e w' => e = .returned (apiErr 1) ∧ w = w' := by
  have H := Lib.hid h; have HI := Lib.hid hi
  clear h hi
  go_enter Tryz.func10, Tryz.ntmps10
  go_wp2_with (go_at_call 32; refine (lhas_any H.out i).mono ?_; rw [HI.out]; rintro e w' ⟨rfl, rfl⟩)
  go_ret
  exact ⟨rfl, rfl⟩

theorem IsLog.put {w w' : World} {F : Nat → Prop} {p q a b c : Nat} {S : LogS} {n : Nat} (h : IsLog w F p q a b c S n) (k : Keep (fun x => x = a) w w') {g : Grp} (hg : IsGrp w' a g) (h1 : GIn S.D g) (h2 : g.length ≤ 40) : IsLog w' F p q a b c { S with wait := g } n :=
  ⟨(k.block q (lt_of_block h.head) h.qa.1).trans h.head, h.disk.keep k (fun x hx e => h.fa (by rw [← (show x = a from e)]; exact hx)), hg, h.mark.keep k (fun e => h.ab (show b = a from e).symm), h.lost.keep k (fun e => h.ac (show c = a from e).symm),
    h.ab, h.ac, h.bc, h.fq, h.fa, h.fb, h.fc, ⟨h.ok.len, h.ok.len2, h1, h.ok.mark, h2, h.ok.mlen, h.ok.llen⟩⟩

set_option maxHeartbeats 1000000 in
theorem lput_any {w : World} {F : Nat → Prop} {p q a b c : Nat} {S : LogS} {n : Nat} (h : IsLog w F p q a b c S n) (i : Nat) (hi : homeB S.D.las.length (i : Int) = true) (g off cap : Nat) (s : ByteArray) (hs : s.size = 512) (hb : BytesAt w g off s.data.toList)
    (hfit : (glook S.wait i).isSome = true ∨ S.wait.length < 40) :
    Calls Tryz.prog 10 #[.pointer (some ⟨q, 0, none⟩), .int .i64 (i : Int), .slice (some ⟨g, off, none⟩) 512 cap] w fun e w' => e = .returned .nilIface ∧ IsLog w' F p q a b c { S with wait := gput S.wait i s } n ∧ Keep (fun x => x = a) w w' := by
  have c0 := h.cell 1
  simp only [List.getElem?_toArray, List.getElem?_cons_zero, List.getElem?_cons_succ] at c0
  have hi2 : 48 ≤ i ∧ i < S.D.las.length := by
    simp only [homeB, Bool.and_eq_true, decide_eq_true_eq] at hi; omega
  have hi3 : i < 65536 := by have := h.ok.len2; omega
  have HZ := Lib.hid (gget_size h.wait.ok i)
  have H := Lib.hid h; have HI := Lib.hid hi; have HB := Lib.hid hb
  have KA := Lib.hid ((Keep.refl (fun _ => False) w).alloc (.cells (secC ((glook S.wait i).getD zeroSec)) 53))
  have HA := Lib.hid (h.keep0 KA.out)
  have BA : Hid (BytesAt (w.alloc (.cells (secC ((glook S.wait i).getD zeroSec)) 53)) g off s.data.toList) := Lib.hid (hb.same (KA.out.block g (by have := World.block_lt_of_cell? _ _ (hb 0 (by rw [Array.length_toList, show s.data.size = 512 from hs]; omega)); exact this) (fun h => h)))
  have HFIN : Hid (GIn S.D (gput S.wait i s) ∧ (gput S.wait i s).length ≤ 40) := Lib.hid ⟨fun x hx => by
    rcases (gput_mem _ _ _ x).1 hx with rfl | hx
    · exact ⟨hi2.1, hi2.2⟩
    · exact h.ok.wait x hx.1, by
    rw [gput_length h.wait.ok]
    have := h.ok.wlen
    rcases hfit with e | e
    · rw [if_pos e]; exact this
    · split <;> omega⟩
  have hwl := h.ok.wlen
  have c1 := HA.out.cell 1
  simp only [List.getElem?_toArray, List.getElem?_cons_zero, List.getElem?_cons_succ] at c1
  clear h hi hb
  cases hss : (glook S.wait i).isSome
  · have hlt : S.wait.length < 40 := by rcases hfit with e | e; rw [hss] at e; cases e; exact e
    have HSS := Lib.hid hss
    clear hss hfit
    go_enter Tryz.func10, Tryz.ntmps10
    go_wp2_with (first | (go_at_call 32; refine (lhas_any H.out i).mono ?_; rw [HI.out]; rintro e w' ⟨rfl, rfl⟩) | (refine wpList_look_ok rfl _ _ rfl a S.wait i rfl rfl H.out.wait hi3 ?_; rw [HSS.out]) | (refine wpList_var_sec rfl rfl rfl _ _ rfl ((glook S.wait i).getD zeroSec) rfl rfl HZ.out ?_) | (refine wpList_len_grp_g rfl _ rfl a S.wait rfl HA.out.wait ?_))
    refine wp_region_any (by kernel_rfl) ?_
    change wpAny _ _ _ _ _ _ _ (World.drew _)
    have KD : Hid (Keep (fun _ => False) w (w.alloc (.cells (secC ((glook S.wait i).getD zeroSec)) 53)).drew) := Lib.hid (KA.out.drew)
    have HL := Lib.hid (HA.out.keep0 (Keep.drew (Keep.refl (fun _ => False) _)))
    have BL : Hid (BytesAt (w.alloc (.cells (secC ((glook S.wait i).getD zeroSec)) 53)).drew g off s.data.toList) := Lib.hid BA.out
    clear c1
    generalize (w.alloc (.cells (secC ((glook S.wait i).getD zeroSec)) 53)).drew = wd at KD HL BL ⊢
    have c1 := HL.out.cell 1
    simp only [List.getElem?_toArray, List.getElem?_cons_zero, List.getElem?_cons_succ] at c1
    have hend : ∀ w9, IsGrp w9 a (gput S.wait i s) → Keep (fun x => x = a) wd w9 → IsLog w9 F p q a b c { S with wait := gput S.wait i s } n ∧ Keep (fun x => x = a) w w9 := fun w9 h9 k9 =>
      ⟨HL.out.put k9 h9 HFIN.out.1 HFIN.out.2, (KD.out.mono (fun _ _ h => h.elim)).trans k9 (fun _ h => .inl h)⟩
    have HEND := Lib.hid hend
    clear hend
    refine wpAny_take (i := 0) (v := .pointer (some ⟨q, 0, none⟩)) rfl (by kernel_rfl) (by kernel_rfl) (by kernel_rfl) (fun _ _ _ h => h) (Or.inl ⟨by rfl, fun w => by rfl⟩) ?_
    refine wpAny_take (i := 1) (v := .pointer (some ⟨q, 0, none⟩)) rfl (by kernel_rfl) (by kernel_rfl) (by kernel_rfl) (fun _ _ _ h => h) (Or.inl ⟨by rfl, fun w => by rfl⟩) ?_
    refine wpAny_take (i := 2) (v := .pointer (some ⟨q, 1, none⟩)) rfl (by kernel_rfl) (by kernel_rfl) (by kernel_rfl) (fun _ _ _ h => h) (Or.inl ⟨by rfl, fun w => by kernel_rfl⟩) ?_
    refine wpAny_take (i := 4) (v := .int .i64 (i : Int)) rfl (by kernel_rfl) (by kernel_rfl) (by kernel_rfl) (fun _ _ _ h => h) (Or.inl ⟨by rfl, fun w => by rfl⟩) ?_
    refine wpAny_take (i := 5) (v := .slice (some ⟨g, off, none⟩) 512 cap) rfl (by kernel_rfl) (by kernel_rfl) (by kernel_rfl) (fun _ _ _ h => h) (Or.inl ⟨by rfl, fun w => by rfl⟩) ?_
    refine wpAny_take (i := 6) (v := .pointer (some ⟨g, off, none⟩)) rfl (by kernel_rfl) (by kernel_rfl) (by kernel_rfl) (fun _ _ _ h => h) (Or.inl ⟨by rfl, fun w => by kernel_rfl⟩) ?_
    simp only [Act.put, List.getElem_toArray, List.getElem_cons_zero, List.getElem_cons_succ, List.setIfInBounds_toArray, List.set_cons_succ, List.set_cons_zero]
    refine wpAny_ready (rs := [3, 7]) (by kernel_rfl) (by simp) ?_
    refine AllReady.cons rfl (fun K hK => ?_) (AllReady.cons rfl (fun K hK => ?_) AllReady.nil)
    · refine step_load_cell rfl _ rfl ⟨q, 1, none⟩ (.map (some a)) Tryz.underlying57 rfl rfl c1 ?_
      refine hK _ _ ?_
      clear hK K
      simp only [Act.put, List.getElem_toArray, List.getElem_cons_zero, List.getElem_cons_succ, List.setIfInBounds_toArray, List.set_cons_succ, List.set_cons_zero]
      refine wpAny_ready (rs := [7]) (by kernel_rfl) (by simp) ?_
      refine AllReady.cons rfl (fun K hK => ?_) AllReady.nil
      refine step_load_bytes rfl _ rfl g off s hs rfl BL.out ?_
      refine hK _ _ ?_
      clear hK K
      simp only [Act.put, List.getElem_toArray, List.getElem_cons_zero, List.getElem_cons_succ, List.setIfInBounds_toArray, List.set_cons_succ, List.set_cons_zero]
      refine wpAny_ready (rs := [8]) (by kernel_rfl) (by simp) ?_
      refine AllReady.cons rfl (fun K hK => ?_) AllReady.nil
      refine step_put_grp rfl _ _ _ rfl a S.wait i s rfl rfl rfl HL.out.wait hi3 hs (by omega) ?_
      intro w9 h9 k9 _
      have H9 := Lib.hid (HEND.out w9 h9 k9)
      refine hK _ _ ?_
      clear hK K h9 k9
      refine wpAny_done (by kernel_rfl) ?_ _
      simp only [Act.put, List.getElem_toArray, List.getElem_cons_zero, List.getElem_cons_succ]
      go_wp2
      go_ret
      exact ⟨rfl, H9.out.1, H9.out.2⟩
    · refine step_load_bytes rfl _ rfl g off s hs rfl BL.out ?_
      refine hK _ _ ?_
      clear hK K
      simp only [Act.put, List.getElem_toArray, List.getElem_cons_zero, List.getElem_cons_succ, List.setIfInBounds_toArray, List.set_cons_succ, List.set_cons_zero]
      refine wpAny_ready (rs := [3]) (by kernel_rfl) (by simp) ?_
      refine AllReady.cons rfl (fun K hK => ?_) AllReady.nil
      refine step_load_cell rfl _ rfl ⟨q, 1, none⟩ (.map (some a)) Tryz.underlying57 rfl rfl c1 ?_
      refine hK _ _ ?_
      clear hK K
      simp only [Act.put, List.getElem_toArray, List.getElem_cons_zero, List.getElem_cons_succ, List.setIfInBounds_toArray, List.set_cons_succ, List.set_cons_zero]
      refine wpAny_ready (rs := [8]) (by kernel_rfl) (by simp) ?_
      refine AllReady.cons rfl (fun K hK => ?_) AllReady.nil
      refine step_put_grp rfl _ _ _ rfl a S.wait i s rfl rfl rfl HL.out.wait hi3 hs (by omega) ?_
      intro w9 h9 k9 _
      have H9 := Lib.hid (HEND.out w9 h9 k9)
      refine hK _ _ ?_
      clear hK K h9 k9
      refine wpAny_done (by kernel_rfl) ?_ _
      simp only [Act.put, List.getElem_toArray, List.getElem_cons_zero, List.getElem_cons_succ]
      go_wp2
      go_ret
      exact ⟨rfl, H9.out.1, H9.out.2⟩
  · have HSS := Lib.hid hss
    clear hss hfit
    go_enter Tryz.func10, Tryz.ntmps10
    go_wp2_with (first | (go_at_call 32; refine (lhas_any H.out i).mono ?_; rw [HI.out]; rintro e w' ⟨rfl, rfl⟩) | (refine wpList_look_ok rfl _ _ rfl a S.wait i rfl rfl H.out.wait hi3 ?_; rw [HSS.out]) | (refine wpList_var_sec rfl rfl rfl _ _ rfl ((glook S.wait i).getD zeroSec) rfl rfl HZ.out ?_) | (refine wpList_len_grp_g rfl _ rfl a S.wait rfl HA.out.wait ?_))
    refine wp_region_any (by kernel_rfl) ?_
    change wpAny _ _ _ _ _ _ _ (World.drew _)
    have KD : Hid (Keep (fun _ => False) w (w.alloc (.cells (secC ((glook S.wait i).getD zeroSec)) 53)).drew) := Lib.hid (KA.out.drew)
    have HL := Lib.hid (HA.out.keep0 (Keep.drew (Keep.refl (fun _ => False) _)))
    have BL : Hid (BytesAt (w.alloc (.cells (secC ((glook S.wait i).getD zeroSec)) 53)).drew g off s.data.toList) := Lib.hid BA.out
    clear c1
    generalize (w.alloc (.cells (secC ((glook S.wait i).getD zeroSec)) 53)).drew = wd at KD HL BL ⊢
    have c1 := HL.out.cell 1
    simp only [List.getElem?_toArray, List.getElem?_cons_zero, List.getElem?_cons_succ] at c1
    have hend : ∀ w9, IsGrp w9 a (gput S.wait i s) → Keep (fun x => x = a) wd w9 → IsLog w9 F p q a b c { S with wait := gput S.wait i s } n ∧ Keep (fun x => x = a) w w9 := fun w9 h9 k9 =>
      ⟨HL.out.put k9 h9 HFIN.out.1 HFIN.out.2, (KD.out.mono (fun _ _ h => h.elim)).trans k9 (fun _ h => .inl h)⟩
    have HEND := Lib.hid hend
    clear hend
    refine wpAny_take (i := 0) (v := .pointer (some ⟨q, 0, none⟩)) rfl (by kernel_rfl) (by kernel_rfl) (by kernel_rfl) (fun _ _ _ h => h) (Or.inl ⟨by rfl, fun w => by rfl⟩) ?_
    refine wpAny_take (i := 1) (v := .pointer (some ⟨q, 0, none⟩)) rfl (by kernel_rfl) (by kernel_rfl) (by kernel_rfl) (fun _ _ _ h => h) (Or.inl ⟨by rfl, fun w => by rfl⟩) ?_
    refine wpAny_take (i := 2) (v := .pointer (some ⟨q, 1, none⟩)) rfl (by kernel_rfl) (by kernel_rfl) (by kernel_rfl) (fun _ _ _ h => h) (Or.inl ⟨by rfl, fun w => by kernel_rfl⟩) ?_
    refine wpAny_take (i := 4) (v := .int .i64 (i : Int)) rfl (by kernel_rfl) (by kernel_rfl) (by kernel_rfl) (fun _ _ _ h => h) (Or.inl ⟨by rfl, fun w => by rfl⟩) ?_
    refine wpAny_take (i := 5) (v := .slice (some ⟨g, off, none⟩) 512 cap) rfl (by kernel_rfl) (by kernel_rfl) (by kernel_rfl) (fun _ _ _ h => h) (Or.inl ⟨by rfl, fun w => by rfl⟩) ?_
    refine wpAny_take (i := 6) (v := .pointer (some ⟨g, off, none⟩)) rfl (by kernel_rfl) (by kernel_rfl) (by kernel_rfl) (fun _ _ _ h => h) (Or.inl ⟨by rfl, fun w => by kernel_rfl⟩) ?_
    simp only [Act.put, List.getElem_toArray, List.getElem_cons_zero, List.getElem_cons_succ, List.setIfInBounds_toArray, List.set_cons_succ, List.set_cons_zero]
    refine wpAny_ready (rs := [3, 7]) (by kernel_rfl) (by simp) ?_
    refine AllReady.cons rfl (fun K hK => ?_) (AllReady.cons rfl (fun K hK => ?_) AllReady.nil)
    · refine step_load_cell rfl _ rfl ⟨q, 1, none⟩ (.map (some a)) Tryz.underlying57 rfl rfl c1 ?_
      refine hK _ _ ?_
      clear hK K
      simp only [Act.put, List.getElem_toArray, List.getElem_cons_zero, List.getElem_cons_succ, List.setIfInBounds_toArray, List.set_cons_succ, List.set_cons_zero]
      refine wpAny_ready (rs := [7]) (by kernel_rfl) (by simp) ?_
      refine AllReady.cons rfl (fun K hK => ?_) AllReady.nil
      refine step_load_bytes rfl _ rfl g off s hs rfl BL.out ?_
      refine hK _ _ ?_
      clear hK K
      simp only [Act.put, List.getElem_toArray, List.getElem_cons_zero, List.getElem_cons_succ, List.setIfInBounds_toArray, List.set_cons_succ, List.set_cons_zero]
      refine wpAny_ready (rs := [8]) (by kernel_rfl) (by simp) ?_
      refine AllReady.cons rfl (fun K hK => ?_) AllReady.nil
      refine step_put_grp rfl _ _ _ rfl a S.wait i s rfl rfl rfl HL.out.wait hi3 hs (by omega) ?_
      intro w9 h9 k9 _
      have H9 := Lib.hid (HEND.out w9 h9 k9)
      refine hK _ _ ?_
      clear hK K h9 k9
      refine wpAny_done (by kernel_rfl) ?_ _
      simp only [Act.put, List.getElem_toArray, List.getElem_cons_zero, List.getElem_cons_succ]
      go_wp2
      go_ret
      exact ⟨rfl, H9.out.1, H9.out.2⟩
    · refine step_load_bytes rfl _ rfl g off s hs rfl BL.out ?_
      refine hK _ _ ?_
      clear hK K
      simp only [Act.put, List.getElem_toArray, List.getElem_cons_zero, List.getElem_cons_succ, List.setIfInBounds_toArray, List.set_cons_succ, List.set_cons_zero]
      refine wpAny_ready (rs := [3]) (by kernel_rfl) (by simp) ?_
      refine AllReady.cons rfl (fun K hK => ?_) AllReady.nil
      refine step_load_cell rfl _ rfl ⟨q, 1, none⟩ (.map (some a)) Tryz.underlying57 rfl rfl c1 ?_
      refine hK _ _ ?_
      clear hK K
      simp only [Act.put, List.getElem_toArray, List.getElem_cons_zero, List.getElem_cons_succ, List.setIfInBounds_toArray, List.set_cons_succ, List.set_cons_zero]
      refine wpAny_ready (rs := [8]) (by kernel_rfl) (by simp) ?_
      refine AllReady.cons rfl (fun K hK => ?_) AllReady.nil
      refine step_put_grp rfl _ _ _ rfl a S.wait i s rfl rfl rfl HL.out.wait hi3 hs (by omega) ?_
      intro w9 h9 k9 _
      have H9 := Lib.hid (HEND.out w9 h9 k9)
      refine hK _ _ ?_
      clear hK K h9 k9
      refine wpAny_done (by kernel_rfl) ?_ _
      simp only [Act.put, List.getElem_toArray, List.getElem_cons_zero, List.getElem_cons_succ]
      go_wp2
      go_ret
      exact ⟨rfl, H9.out.1, H9.out.2⟩

set_option maxHeartbeats 1000000 in
/-- A group that is too great is told. -/
theorem lput_full {w : World} {F : Nat → Prop} {p q a b c : Nat} {S : LogS} {n : Nat} (h : IsLog w F p q a b c S n) (i : Nat) (hi : homeB S.D.las.length (i : Int) = true) (v : Option Addr) (cap : Nat)
    (h1 : (glook S.wait i).isSome = false) (h2 : S.wait.length = 40) :
    Calls Tryz.prog 10 #[.pointer (some ⟨q, 0, none⟩), .int .i64 (i : Int), .slice v 512 cap] w fun e w' => ∃ r, e = .returned (.iface 66 (.pointer (some ⟨r, 0, none⟩))) ∧ w'.heap[r]? = some (.cells #[.int .i64 40, apiErr 2] 70 (0, 0)) ∧ Keep (fun _ => False) w w' ∧ w.heap.size ≤ r := by
  have c0 := h.cell 1
  simp only [List.getElem?_toArray, List.getElem?_cons_zero, List.getElem?_cons_succ] at c0
  have hi2 : 48 ≤ i ∧ i < S.D.las.length := by
    simp only [homeB, Bool.and_eq_true, decide_eq_true_eq] at hi; omega
  have hi3 : i < 65536 := by have := h.ok.len2; omega
  have HZ := Lib.hid (gget_size h.wait.ok i)
  have H := Lib.hid h; have HI := Lib.hid hi; have H1 := Lib.hid h1; have H2 := Lib.hid h2
  have KA := Lib.hid ((Keep.refl (fun _ => False) w).alloc (.cells (secC ((glook S.wait i).getD zeroSec)) 53))
  have HA := Lib.hid (h.keep0 KA.out)
  have c1 := HA.out.cell 1
  simp only [List.getElem?_toArray, List.getElem?_cons_zero, List.getElem?_cons_succ] at c1
  clear h hi h1 h2
  go_enter Tryz.func10, Tryz.ntmps10
  go_wp2_with (first | (go_at_call 32; refine (lhas_any H.out i).mono ?_; rw [HI.out]; rintro e w' ⟨rfl, rfl⟩) | (refine wpList_look_ok rfl _ _ rfl a S.wait i rfl rfl H.out.wait hi3 ?_; rw [H1.out]) | (refine wpList_var_sec rfl rfl rfl _ _ rfl ((glook S.wait i).getD zeroSec) rfl rfl HZ.out ?_) | (refine wpList_len_grp_g rfl _ rfl a S.wait rfl HA.out.wait ?_; rw [H2.out]) | (refine wpList_len_grp rfl _ rfl a S.wait rfl HA.out.wait ?_; rw [H2.out]))
  go_ret
  exact ⟨_, rfl, heap_alloc2_new w _ _, KA.out.alloc _, by omega⟩

end Go.Proofs.YtibmillfankjfaaGreatDoor
