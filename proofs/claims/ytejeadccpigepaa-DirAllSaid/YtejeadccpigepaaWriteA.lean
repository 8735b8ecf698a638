/- Files on blocks: Write, where there is room. -/
import Derived.Test.YtejeadccpigepaaReadF
namespace Go.Proofs.Ytejeadccpigepaa.Ino
open Go.RowKit Go.Maps Go.Proofs.Ytejeadccpigepaa
set_option maxRecDepth 100000

attribute [-go_sem] Go.run_max_int2

/-- A long array loaded, in a region's quiet part. -/
theorem still_load_tab {ops : Array Oper} {rest : List Oper} {o : Oper} {a : Act} {w : World} {Q : Act → Prop} (hgd : o.guard = none) (x : Operand) (ho : o.op = .load 56 x) (g off : Nat) (T : List Nat) (hl : T.length = 203) (hx : a.eval x = .pointer (some ⟨g, off, none⟩)) (hS : w.rangeAt g off (tabL T))
    (h : wpStill Try.prog ops w Q rest (a.put o.dst (tabV T))) : wpStill Try.prog ops w Q (o :: rest) a := by
  have hw : Region.wanted o (yielded ops a.tmps) = true := by simp [Region.wanted, hgd]
  rw [wpStill, if_pos hw]
  unfold Oper.still execOp
  simp only [ho, hx, Sem.run_bind, run_loadAt_mid w g off 56 (tabL T) _ hS Try.underlying56 rfl (by rw [tabL_length, hl]; exact Try.infoTab), Result.andThen_ok, Sem.run_pure]
  rw [Oper.stillUpon_value]
  exact h

set_option maxHeartbeats 600000 in
theorem write_any {w : World} {F : Nat → Prop} {p s : Nat} {S : Sto} {size : Nat} {T : List Nat} (h : IsFile w F p s S size T) (hH : Held S T) (hx : S.nxt + 203 < 100000) (hcm : S.c ≤ S.most) (hm : ∀ x ∈ T, x ≤ S.nxt) (at_ : Nat) {v : Value} {b : List UInt8} (hb : Seen w 1 v b.length (bcells b)) (hl : b.length ≤ 50000) (hb0 : 0 < b.length) (ha : at_ + b.length ≤ 102400) (hfit : S.c + ((growTo (at_ / 512) ((at_ + b.length + 511) / 512) T S.nxt 203).2 - S.nxt) ≤ S.most) :
    Calls Try.prog 30 #[.pointer (some ⟨p, 0, none⟩), .int .i64 (at_ : Int), v] w fun e w' => e = .returned .nilIface ∧ ∃ F' S', Grw S S' ∧ S'.nxt = (growTo (at_ / 512) ((at_ + b.length + 511) / 512) T S.nxt 203).2 ∧ IsFile w' F' p s (putAll S' (growTo (at_ / 512) ((at_ + b.length + 511) / 512) T S.nxt 203).1 (laidL S T b.length at_ b ++ pagedL T (growTo (at_ / 512) ((at_ + b.length + 511) / 512) T S.nxt 203).1 203)) (max size (at_ + b.length)) (growTo (at_ / 512) ((at_ + b.length + 511) / 512) T S.nxt 203).1 ∧ Keep (fun x => F x ∨ x = p) w w' ∧ ∀ x, F' x → F x ∨ w.heap.size ≤ x := by
  have H := Lib.hid h; have HB := Lib.hid hb; have HH := Lib.hid hH; have HM := Lib.hid hm
  have HW := Lib.hid (works_any h)
  have HLD := Lib.hid (laid_any h hH at_ hb hl ha)
  obtain ⟨_, ad, cap, rfl, hc1, hc2, hc3⟩ := hb
  clear h hH hm hc3
  have hd1 : ((b.length : Int) == 0) = false := by rw [beq_eq_false_iff_ne]; omega
  have hd2 : decide ((b.length : Int) > 102400 - (at_ : Int)) = false := by rw [decide_eq_false_iff_not]; omega
  obtain ⟨b2, hb2⟩ : ∃ b2, b2 = (at_ + b.length + 511) / 512 := ⟨_, rfl⟩
  obtain ⟨a2, ha2⟩ : ∃ a2, a2 = at_ / 512 := ⟨_, rfl⟩
  have HPT : Hid (∀ w1 : World, Calls Try.prog 43 #[.int .i64 ((at_ : Int) + (b.length : Int))] w1 fun e w' => e = .returned (.int .i64 (b2 : Int)) ∧ w1 = w') := Lib.hid (fun w1 => by
    have := parts_any (w := w1) (at_ + b.length) (by omega)
    rw [Int.natCast_add] at this
    rw [hb2]; exact this)
  have hq : (at_ : Int) / 512 = (a2 : Int) := by omega
  rw [← hb2, ← ha2] at hfit
  have HA2 := Lib.hid ha2; have HB2 := Lib.hid hb2; have HFIT := Lib.hid hfit
  clear ha2 hb2 hfit
  have hT := H.out.len
  obtain ⟨Z, hzt, hzs, hZ⟩ := zTab
  have HZT := Lib.hid hzt
  clear hzt
  have hT2 : (growTo a2 b2 T S.nxt 203).1.length = 203 := by rw [growTo_length, hT]
  have hmx2 := growTo_max a2 b2 T S.nxt 203 HM.out
  have hadd := growTo_add a2 b2 T S.nxt 203
  have hf2 : ∀ x ∈ (growTo a2 b2 T S.nxt 203).1, x < 4294967296 := fun x hx2 => by have := hmx2 x hx2; omega
  have hgv := givenL_old a2 b2 T S.nxt 203 (by omega) 203
  have HGR : Hid (∀ w1 : World, Keep (fun _ => False) w w1 → Calls Try.prog 42 #[.pointer (some ⟨p, 0, none⟩), .int .i64 (a2 : Int), .int .i64 (b2 : Int)] w1 fun e w' => e = .returned (.tuple #[tabV (growTo a2 b2 T S.nxt 203).1, .nilIface]) ∧ Keep F w1 w' ∧ ∃ S', Grw S S' ∧ S'.nxt = (growTo a2 b2 T S.nxt 203).2 ∧ IsFile w' (grow F w1 w') p s S' size T ∧ Held S' (growTo a2 b2 T S.nxt 203).1) := Lib.hid (fun w1 k1 => by
    refine (grown_fits (H.out.keep0 k1) hx hcm HM.out a2 b2 HFIT.out).mono ?_
    rintro e w2 ⟨rfl, k2, S', hG, hn, h2⟩
    exact ⟨rfl, k2, S', hG, hn, h2, HH.out.grown hT HM.out hG hn⟩)
  clear hmx2 hadd HFIT
  obtain ⟨T2, n2⟩ : ∃ (T2 : List Nat), T2 = (growTo a2 b2 T S.nxt 203).1 := ⟨_, rfl⟩
  have HN2 := Lib.hid n2
  rw [← n2] at HGR hgv hf2 hT2
  clear n2
  go_enter Try.func30, Try.ntmps30
  go_wp2_with (first | (go_at_call 37; refine HW.out.mono ?_; rintro e w1 ⟨rfl, rfl⟩) | (go_at_call 41; refine HLD.out.mono ?_; rintro e w1 ⟨lv, rfl, hc1, k1, o1⟩; have HC1 := Lib.hid hc1; have K1 := Lib.hid k1; have O1 := Lib.hid o1; clear hc1 k1 o1) | (go_at_call 43; refine (HPT.out _).mono ?_; rintro e w9 ⟨rfl, rfl⟩) | (go_at_call 42; refine (HGR.out _ K1.out).mono ?_; rintro e w2 ⟨rfl, k2, S', hG, hn, h2, hld⟩; have HG := Lib.hid hG; have HN := Lib.hid hn; have H2 := Lib.hid h2; have K2 := Lib.hid k2; have HTR := Lib.hid (fun (w9 : World) (k9 : Keep (fun _ => False) w2 w9) (z : Int) (sz : Nat) (hz : z = (sz : Int)) => turn_wr H.out hT2 hf2 hgv hld HC1.out (laidL_length S T b.length at_ b) hl K1.out O1.out k2 h2 z sz hz k9); clear hG hn h2 k2 hld) | (refine wpList_var_tab HZT hzs rfl rfl rfl _ _ rfl T2 hT2 rfl rfl ?_) | (refine wpList_load_tabV rfl _ rfl w2.heap.size 0 T2 hT2 rfl (tab_range (heap_alloc_new w2 _)) ?_))
  have HF9 := Lib.hid (H2.out.keep0 ((Keep.refl (fun _ => False) w2).alloc (.cells (tabL T2).toArray 56)))
  have q1 := HF9.out.cell 1
  simp only [List.getElem?_cons_succ, List.getElem?_cons_zero] at q1
  have q2 := tab_range (heap_alloc_new w2 (.cells (tabL T2).toArray 56))
  have hlt2 : w2.heap.size < (w2.alloc (.cells (tabL T2).toArray 56)).heap.size := by simp
  have hu := Try.underlying56
  have hi : (Try.prog.info? 56).map (·.size) = some (tabL T2).length := by rw [tabL_length, hT2]; exact Try.infoTab
  have HK9 : Hid (Keep (fun _ => False) w2 (w2.alloc (.cells (tabL T2).toArray 56)).drew) := Lib.hid ((Keep.refl _ w2).alloc _).drew
  obtain ⟨sz, hszz⟩ : ∃ sz, sz = max size (at_ + b.length) := ⟨_, rfl⟩
  have hmax : ∀ (w : World) (ts : Array TypeId) (t : TypeId), (Builtin.max_ ts t #[.int .i64 (size : Int), .int .i64 ((at_ : Int) + (b.length : Int))]).run Try.prog w = .ok (.int .i64 (sz : Int)) w := fun w ts t => by
    rw [Go.run_max_int2]
    congr 2
    split <;> omega
  have HSZ := Lib.hid hszz
  clear hszz
  generalize w2.alloc (.cells (tabL T2).toArray 56) = w8 at *
  refine wp_region_still_tail 9 (by kernel_rfl) (by kernel_rfl) ?_
  simp only [List.take_succ_cons, List.take_zero, List.drop_succ_cons, List.drop_zero]
  still_step
  refine still_load_tab rfl _ rfl w2.heap.size 0 T2 hT2 rfl (by exact q2) ?_
  repeat still_step
  refine wpStill_nil ?_
  change wpList _ _ _ _ _ w8.drew
  go_wp2_with (go_at_call 44; refine (HTR.out _ HK9.out _ sz rfl).mono ?_; rintro e w5 ⟨rfl, F', h5, k5, f5, k6⟩; have H5 := Lib.hid h5; have K5 := Lib.hid k5; have F5 := Lib.hid f5; clear h5 k5 f5 k6)
  all_goals go_ret
  all_goals
    have h5 := H5.out
    have hn := HN.out
    rw [HN2.out, HA2.out, HB2.out, HSZ.out] at h5
    rw [HA2.out, HB2.out] at hn
    exact ⟨rfl, F', S', HG.out, hn, h5, K5.out, F5.out⟩

end Go.Proofs.Ytejeadccpigepaa.Ino
