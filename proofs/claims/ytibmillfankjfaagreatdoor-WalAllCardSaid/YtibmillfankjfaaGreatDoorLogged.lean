/- logged: the group that the log holds, or none. -/
import Derived.Test.YtibmillfankjfaaGreatDoorKeep
namespace Go.Proofs.YtibmillfankjfaaGreatDoor
open Go.RowKit
set_option maxRecDepth 100000

/-- The first k sectors that a head h tells of. -/
def lgo (D : Dk) (h : ByteArray) : Nat → Option Grp
  | 0 => some []
  | k + 1 => match lgo D h k with
    | none => none
    | some g => if homeB D.las.length (num16 h (6 + 2 * k) : Nat) then some (gput g (num16 h (6 + 2 * k)) (D.new.getD (1 + k) default)) else none

def sec0 (D : Dk) : ByteArray := D.new.getD 0 default

def loggedD (D : Dk) : Option Grp :=
  if 40 < num16 (sec0 D) 4 then none
  else match lgo D (sec0 D) (num16 (sec0 D) 4) with
    | none => none
    | some g => if sec0 D = headOf g then some g else none

theorem lgo_ok {D : Dk} (hD : D.Ok) {h : ByteArray} (hlen : 128 ≤ D.las.length) : ∀ (k : Nat) (g : Grp), k ≤ 100 → lgo D h k = some g → GOk g ∧ g.length ≤ k ∧ ∀ x ∈ g, 48 ≤ x.1 ∧ x.1 < D.las.length
  | 0, g, _, e => by
    simp only [lgo, Option.some.injEq] at e
    subst e
    exact ⟨GOk.nil, by simp, by simp⟩
  | k + 1, g, hk, e => by
    unfold lgo at e
    cases hl : lgo D h k with
    | none => rw [hl] at e; cases e
    | some g' =>
      rw [hl] at e
      simp only at e
      obtain ⟨h1, h2, h3⟩ := lgo_ok hD hlen k g' (by omega) hl
      split at e
      · rename_i hh
        simp only [Option.some.injEq] at e
        subst e
        simp only [homeB, Bool.and_eq_true, decide_eq_true_eq] at hh
        refine ⟨h1.put (num16_lt _ _) (new_size hD (by omega) rfl), ?_, fun x hx => ?_⟩
        · have := gput_le g' (num16 h (6 + 2 * k)) (D.new.getD (1 + k) default); omega
        · rcases (gput_mem _ _ _ x).1 hx with rfl | hx
          · exact ⟨by simp only; omega, by simp only; omega⟩
          · exact h3 x hx.1
      · cases e

theorem lgo_none {D : Dk} {h : ByteArray} {k : Nat} (e : lgo D h k = none) : ∀ m, k ≤ m → lgo D h m = none
  | 0, hm => by
    obtain rfl : k = 0 := by omega
    exact e
  | m + 1, hm => by
    by_cases hk : k = m + 1
    · rw [← hk]; exact e
    · rw [lgo, lgo_none e m (by omega)]

structure LogAt (w : World) (F : Nat → Prop) (p : Nat) (D : Dk) (n : Nat) (q b : Nat) (h : ByteArray) (g : Grp) (wr : World) : Prop where
  tab : Tab wr
  disk : DiskAt wr F p D n
  hd : SecAt wr q h
  grp : IsGrp wr b g
  keep : Keep (fun _ => False) w wr

theorem LogAt.go {w wr wr' : World} {F : Nat → Prop} {p : Nat} {D : Dk} {n q b : Nat} {h : ByteArray} {g : Grp} (H : LogAt w F p D n q b h g wr) (k : Keep (fun _ => False) wr wr') : LogAt w F p D n q b h g wr' :=
  ⟨H.tab.keep k (fun h => h), H.disk.keep0 k, H.hd.keep k (fun h => h), H.grp.keep k (fun h => h), H.keep.trans k (fun _ h => h.elim)⟩

theorem LogAt.put {w wr wr' : World} {F : Nat → Prop} {p : Nat} {D : Dk} {n q b : Nat} {h : ByteArray} {g g' : Grp} (H : LogAt w F p D n q b h g wr) (k : Keep (fun x => x = b) wr wr') (hg : IsGrp wr' b g') (hw : Tab w) (hF : ∀ x, F x → x < w.heap.size) (hb : w.heap.size ≤ b) (hq : q ≠ b) : LogAt w F p D n q b h g' wr' :=
  ⟨H.tab.keep k (fun e => by have := hw.lt; have : 1 = b := e; omega), H.disk.keep k (fun x hx e => by have := hF x hx; have : x = b := e; omega), H.hd.keep k hq, hg, H.keep.behind k hb⟩

section
variable {ops : Array Oper} {o : Oper} {a : Act} {w : World} {K : Act → World → Prop} {Q : Exit → Act → World → Prop} {E : Prop}

theorem step_load_sec (hg : o.guard = none) (x : Operand) (ho : o.op = .load 53 x) (g : Nat) (s : ByteArray) (hx : a.eval x = .pointer (some ⟨g, 0, none⟩)) (hS : SecAt w g s)
    (hK : K (a.put o.dst (secV s)) w) : if Region.wanted o (yielded ops a.tmps) = true then Oper.wp Tryz.prog o a w K Q else E := by
  have hw : Region.wanted o (yielded ops a.tmps) = true := by simp [Region.wanted, hg]
  rw [if_pos hw]
  exact wp_load_row 53 x ho g hx _ (secC s) _ _ hS.1 Tryz.underlying53 rfl (by rw [secC_size, hS.2]; exact Tryz.infoSec) hK

theorem step_call {P : Program} (hg : o.guard = none) {f : FuncId} {x : Operand} {t : TypeId} {v0 : Value} (ho : o.op = .call { callee := .value (.func f), args := #[x], argTypes := #[t] }) (he : ∀ args w, (callFunc f args).run P w = .ok (.enter f args) w) (hx : a.eval x = v0)
    (hc : Calls P f #[v0] w fun e w' => ∃ v, e = .returned v ∧ K (a.put o.dst v) w') :
    if Region.wanted o (yielded ops a.tmps) = true then Oper.wp P o a w K Q else E := by
  have hw : Region.wanted o (yielded ops a.tmps) = true := by simp [Region.wanted, hg]
  rw [if_pos hw]
  have hrun : (execOp a.eval o).run P w = .ok (.enter f #[v0]) w := by
    subst hx
    simp [execOp, ho, resolve, invoke, go_sem, he, Act.eval]
  unfold Oper.wp
  rw [hrun, Oper.upon_enter]
  refine hc.mono fun e w'' hh => ?_
  obtain ⟨v, rfl, hh⟩ := hh
  exact hh

theorem step_neq_sec (hg : o.guard = none) (x y : Operand) {ty : TypeId} (ho : o.op = .binOp .neq 53 x y ty) (s t : ByteArray) (hs : s.size = 512) (ht : t.size = 512) (hx : a.eval x = secV s) (hy : a.eval y = secV t)
    (hK : K (a.put o.dst (.bool (!decide (s = t)))) w) : if Region.wanted o (yielded ops a.tmps) = true then Oper.wp Tryz.prog o a w K Q else E := by
  have hw : Region.wanted o (yielded ops a.tmps) = true := by simp [Region.wanted, hg]
  rw [if_pos hw]
  have h1 := run_eqGuard_agg (P := Tryz.prog) w .neq 53 x y (secC s) (secC t) Tryz.eqTypeSec
  have h2 := run_neq_struct (P := Tryz.prog) w 53 (secC s) (secC t)
  have h3 := eq_at w s t hs ht 9998
  unfold Oper.wp execOp
  simp only [secV] at hx hy h3
  simp only [ho, hx, hy, Sem.run_bind, h1, h2, h3, Result.andThen_ok, Sem.run_pure]
  exact hK
end

set_option maxHeartbeats 4000000 in
theorem logged_any {w : World} {F : Nat → Prop} {p : Nat} {D : Dk} {n : Nat} (hT : Tab w) (h : DiskAt w F p D n) (hlen : 128 ≤ D.las.length) :
    Calls Tryz.prog 22 #[.pointer (some ⟨p, 0, none⟩)] w fun e w' => ∃ mb, e = .returned (.map mb) ∧ GrpO w' mb ((loggedD D).getD []) ∧ Keep (fun _ => False) w w' ∧ (∀ b, mb = some b → w.heap.size ≤ b) := by
  have HT := Lib.hid hT; have HD := Lib.hid h; have HOK := Lib.hid h.ok
  have HS : Hid ((sec0 D).size = 512) := Lib.hid (new_size h.ok (by omega) rfl)
  have H0 : Hid (D.new.getD 0 default = sec0 D) := Lib.hid rfl
  clear hT h
  have HL : Hid (loggedD D = if 40 < num16 (sec0 D) 4 then none else match lgo D (sec0 D) (num16 (sec0 D) 4) with | none => none | some g => if sec0 D = headOf g then some g else none) := Lib.hid rfl
  have hmm := @run_makeMap Tryz.prog
  generalize sec0 D = h at *
  obtain ⟨m, hm⟩ : ∃ m, m = num16 h 4 := ⟨_, rfl⟩
  have HM := Lib.hid hm
  have hm4 := num16_lt h 4
  rw [← hm] at hm4
  clear hm
  by_cases c : 40 < m
  all_goals
    go_enter Tryz.func22, Tryz.ntmps22
    go_wp2_with (first | (go_at_call 20; refine (rd_is HD.out 0 (by omega) h H0.out _ rfl).mono ?_; rintro e w1 ⟨rfl, k1⟩; have HK1 := Lib.hid k1; clear k1) | (refine wpList_var_sec rfl rfl rfl _ _ rfl h rfl rfl HS.out ?_) | (refine wpList_slice_sec rfl _ _ rfl _ 4 (by omega) rfl (.inr ⟨_, _, rfl, rfl, rfl⟩) ?_) | (go_at_call 41; refine (get16_any (SecAt.new w1 h HS.out) 4 (by omega) _ _ (by omega)).mono ?_; rw [← HM.out]; rintro e w2 ⟨rfl, k2, -⟩; have HK2 := Lib.hid (((HK1.out.alloc (.cells (secC h) 53))).trans k2 (fun _ h => h.elim)); have S2 := Lib.hid ((SecAt.new w1 h HS.out).keep k2 (fun h => h)); clear k2))
  · go_ret
    refine ⟨none, rfl, .inl ⟨rfl, ?_⟩, HK2.out, fun b hb => by cases hb⟩
    rw [HL.out, ← HM.out, if_pos c]
    rfl
  · have HQ := Lib.hid HK1.out.size
    have H3 : Hid (LogAt w F p D n w1.heap.size w2.heap.size h [] (w2.alloc (.map #[] 0))) := Lib.hid ⟨(HT.out.keep HK2.out (fun h => h)).alloc _, (HD.out.keep0 HK2.out).keep0 ((Keep.refl _ _).alloc _), S2.out.alloc _, IsGrp.made w2, HK2.out.alloc _⟩
    have HQ2 := Lib.hid S2.out.lt
    clear hmm
    go_loopw [16] (fun i wr => ∃ (k : Nat) (g : Grp), k ≤ m ∧ i = .int .i64 k ∧ lgo D h k = some g ∧ LogAt w F p D n w1.heap.size w2.heap.size h g wr) (fun i _ => m - (intOf i).toNat)
    case atStart => exact ⟨0, [], by omega, rfl, rfl, H3.out⟩
    case round =>
      obtain ⟨k, g, hk, rfl, hgo, hF⟩ := hrel
      have HF := Lib.hid hF
      have HGO := Lib.hid hgo
      have HG := Lib.hid (lgo_ok HOK.out hlen k g (by omega) hgo)
      clear hF hgo
      by_cases hlt : k < m
      · have hi := num16_lt h (6 + 2 * k)
        have HST : Hid (lgo D h (k + 1) = if homeB D.las.length ((num16 h (6 + 2 * k) : Nat) : Int) then some (gput g (num16 h (6 + 2 * k)) (D.new.getD (1 + k) default)) else none) := Lib.hid (by rw [lgo, HGO.out])
        obtain ⟨i, hi'⟩ : ∃ i, i = num16 h (6 + 2 * k) := ⟨_, rfl⟩
        have HI := Lib.hid hi'
        rw [← hi'] at hi HST
        clear hi'
        cases hh : homeB D.las.length (i : Int)
        · have HH := Lib.hid hh
          clear hh
          go_wp2_with (first | (refine wpList_slice_sec rfl _ _ rfl _ (6 + 2 * k) (by omega) rfl (.inr ⟨_, _, rfl, rfl, by omega⟩) ?_) | (go_at_call 41; refine (get16_any HF.out.hd (6 + 2 * k) (by omega) _ _ (by omega)).mono ?_; rw [← HI.out]; rintro e w3 ⟨rfl, k3, -⟩; have H3 := Lib.hid (HF.out.go k3); clear k3) | (go_at_call 42; refine (isHome_at H3.out.disk _).mono ?_; rw [HH.out]; rintro e w4 ⟨rfl, rfl⟩))
          go_ret
          refine ⟨none, rfl, .inl ⟨rfl, ?_⟩, H3.out.keep, fun b hb => by cases hb⟩
          have e9 : lgo D h (k + 1) = none := by rw [HST.out, if_neg (by rw [HH.out]; exact Bool.false_ne_true)]
          have e8 := lgo_none e9 m (by omega)
          rw [HL.out, ← HM.out, if_neg c, e8]
          rfl
        · have HH := Lib.hid hh
          have HS2 : Hid ((D.new.getD (1 + k) default).size = 512) := Lib.hid (new_size HOK.out (by omega) rfl)
          have HNW : Hid (∃ s, D.new.getD (1 + k) default = s) := Lib.hid ⟨_, rfl⟩
          rw [if_pos hh] at HST
          obtain ⟨s, hs⟩ := HNW.out
          rw [hs] at HST HS2
          have HSS := Lib.hid hs
          clear hh hs HNW
          go_wp2_with (first | (refine wpList_slice_sec rfl _ _ rfl _ (6 + 2 * k) (by omega) rfl (.inr ⟨_, _, rfl, rfl, by omega⟩) ?_) | (go_at_call 41; refine (get16_any HF.out.hd (6 + 2 * k) (by omega) _ _ (by omega)).mono ?_; rw [← HI.out]; rintro e w3 ⟨rfl, k3, -⟩; have H3 := Lib.hid (HF.out.go k3); clear k3) | (go_at_call 42; refine (isHome_at H3.out.disk _).mono ?_; rw [HH.out]; rintro e w4 ⟨rfl, rfl⟩) | (go_at_call 20; refine (rd_is H3.out.disk (1 + k) (by omega) s HSS.out _ (by omega)).mono ?_; rintro e w5 ⟨rfl, k5⟩; have H5 := Lib.hid (H3.out.go k5); clear k5) | (refine wpList_put rfl _ _ _ rfl w2.heap.size g i s rfl rfl rfl H5.out.grp hi HS2.out (by have := HG.out.2.1; omega) ?_; intro w6 h6 k6 z6; have H6 := Lib.hid (H5.out.put k6 h6 HT.out HD.out.lt (Nat.le_trans HQ.out (Nat.le_of_lt HQ2.out)) (Nat.ne_of_lt HQ2.out)); clear h6 k6 z6))
          go_roundw
          case rel => exact ⟨k + 1, _, by omega, by go_num, HST.out, H6.out⟩
          case measure => simp [intOf]; omega
      · obtain rfl : k = m := by omega
        go_wp2
        have HLE := Lib.hid HG.out.2.1
        refine wp_region_any (by kernel_rfl) ?_
        change wpAny _ _ _ _ _ _ _ (World.drew _)
        have HFD := Lib.hid (HF.out.go (Keep.drew (Keep.refl (fun _ => False) wr)))
        generalize wr.drew = wd at HFD ⊢
        refine wpAny_take (i := 1) (v := .map (some w2.heap.size)) rfl (by kernel_rfl) (by kernel_rfl) (by kernel_rfl) (fun _ _ _ h => h) (Or.inl ⟨by rfl, ?_⟩) ?_
        · intro w; rfl
        refine wpAny_ready (rs := [0, 2]) (by kernel_rfl) (by simp) ?_
        refine AllReady.cons rfl (fun K hK => ?_) (AllReady.cons rfl (fun K hK => ?_) AllReady.nil)
        · refine step_load_sec rfl _ rfl _ h rfl HFD.out.hd ?_
          refine hK _ _ ?_
          clear hK K
          refine wpAny_ready (rs := [2]) (by kernel_rfl) (by simp) ?_
          refine AllReady.cons rfl (fun K hK => ?_) AllReady.nil
          refine step_call rfl rfl (enters_of Tryz.func43 (by kernel_rfl) rfl) rfl ?_
          refine (head_any HFD.out.tab HFD.out.grp (by have := HLE.out; omega)).mono ?_
          rintro e w7 ⟨rfl, k7⟩
          have H7 := Lib.hid (HFD.out.go k7)
          refine ⟨_, rfl, hK _ _ ?_⟩
          clear hK K
          refine wpAny_ready (rs := [3]) (by kernel_rfl) (by simp) ?_
          refine AllReady.cons rfl (fun K hK => ?_) AllReady.nil
          refine step_neq_sec rfl _ _ rfl h (headOf g) HS.out (headOf_size g) rfl rfl ?_
          refine hK _ _ ?_
          clear hK K
          refine wpAny_done (by kernel_rfl) ?_ _
          cases hdec : decide (h = headOf g)
          · go_simp
            go_wp2
            go_ret
            refine ⟨none, rfl, .inl ⟨rfl, ?_⟩, H7.out.keep, fun b hb => by cases hb⟩
            have hne : ¬ h = headOf g := of_decide_eq_false hdec
            rw [HL.out, ← HM.out, if_neg c, HGO.out]
            simp only
            rw [if_neg hne]
            rfl
          · go_simp
            go_wp2
            go_ret
            refine ⟨some w2.heap.size, rfl, .inr ⟨_, rfl, ?_⟩, H7.out.keep, fun b hb => by cases hb; exact Nat.le_trans HQ.out (Nat.le_of_lt HQ2.out)⟩
            have hne : h = headOf g := of_decide_eq_true hdec
            rw [HL.out, ← HM.out, if_neg c, HGO.out]
            simp only
            rw [if_pos hne]
            exact H7.out.grp
        · refine step_call rfl rfl (enters_of Tryz.func43 (by kernel_rfl) rfl) rfl ?_
          refine (head_any HFD.out.tab HFD.out.grp (by have := HLE.out; omega)).mono ?_
          rintro e w7 ⟨rfl, k7⟩
          have H7 := Lib.hid (HFD.out.go k7)
          refine ⟨_, rfl, hK _ _ ?_⟩
          clear hK K
          refine wpAny_ready (rs := [0]) (by kernel_rfl) (by simp) ?_
          refine AllReady.cons rfl (fun K hK => ?_) AllReady.nil
          refine step_load_sec rfl _ rfl _ h rfl H7.out.hd ?_
          refine hK _ _ ?_
          clear hK K
          refine wpAny_ready (rs := [3]) (by kernel_rfl) (by simp) ?_
          refine AllReady.cons rfl (fun K hK => ?_) AllReady.nil
          refine step_neq_sec rfl _ _ rfl h (headOf g) HS.out (headOf_size g) rfl rfl ?_
          refine hK _ _ ?_
          clear hK K
          refine wpAny_done (by kernel_rfl) ?_ _
          cases hdec : decide (h = headOf g)
          · go_simp
            go_wp2
            go_ret
            refine ⟨none, rfl, .inl ⟨rfl, ?_⟩, H7.out.keep, fun b hb => by cases hb⟩
            have hne : ¬ h = headOf g := of_decide_eq_false hdec
            rw [HL.out, ← HM.out, if_neg c, HGO.out]
            simp only
            rw [if_neg hne]
            rfl
          · go_simp
            go_wp2
            go_ret
            refine ⟨some w2.heap.size, rfl, .inr ⟨_, rfl, ?_⟩, H7.out.keep, fun b hb => by cases hb; exact Nat.le_trans HQ.out (Nat.le_of_lt HQ2.out)⟩
            have hne : h = headOf g := of_decide_eq_true hdec
            rw [HL.out, ← HM.out, if_neg c, HGO.out]
            simp only
            rw [if_pos hne]
            exact H7.out.grp

end Go.Proofs.YtibmillfankjfaaGreatDoor
