/- Dice: what layer 14's own beginning does, and the law. -/
import Derived.Test.YtdblblnihdifiaaDiB
import Derived.Test.YtdblblnihdifiaaCdZ
import Derived.Deep.CutRange
import Derived.Deep.CutBlock
namespace Go.Proofs.Ytdblblnihdifiaa.Di
open Go.RowKit Go.Proofs.Ytdblblnihdifiaa
set_option maxRecDepth 100000
attribute [-go_sem] Go.run_min_int2 Go.run_max_int2

theorem begun_any {w : World} : Calls Try.prog 4 #[] w fun e w' => e = .returned (.bool true) ∧ Keep (fun _ => False) w w' := by
  have HS : Hid (Seen (w.alloc (.cells #[.int .i64 7, .int .i64 (-1)] 3)) 1 (.slice (some ⟨w.heap.size, 0, none⟩) 2 2) [7, -1].length (icells [7, -1])) := Lib.hid (Row.made (w := w) (e := 3) (size := 1) #[.int .i64 7, .int .i64 (-1)] w.heap.size 2 rfl (by unfold maxLen; omega) rfl).seen
  have K0 : Hid (Keep (fun _ => False) w (w.alloc (.cells #[.int .i64 7, .int .i64 (-1)] 3))) := Lib.hid ((Keep.refl _ w).alloc _)
  go_enter Try.func4, Try.ntmps4
  go_wp2_with fail
  refine (new_any HS.out (by simp)).mono ?_
  rintro e w1 ⟨p, rfl, a0, a1, a2⟩
  have A0 := Lib.hid a0; have A1 := Lib.hid a1; have A2 := Lib.hid (K0.out.trans a2 (fun _ h => h.elim))
  clear a0 a1 a2
  go_wp2_with fail
  refine (roll_any A1.out 6 (by unfold fitI; omega)).mono ?_
  rintro e w2 ⟨rfl, b1, b2⟩
  have B1 : Hid (CupAt _ w2 p [-1]) := Lib.hid b1; have B2 := Lib.hid b2
  clear b1 b2
  have e1 : rollF [7, -1] 6 = 2 := by decide +kernel
  rw [e1]
  go_wp2_with fail
  refine (roll_any B1.out 6 (by unfold fitI; omega)).mono ?_
  rintro e w3 ⟨rfl, b1, b2⟩
  have C1 : Hid (CupAt _ w3 p []) := Lib.hid b1; have C2 := Lib.hid b2
  clear b1 b2
  have e2 : rollF [-1] 6 = 6 := by decide +kernel
  rw [e2]
  go_wp2_with fail
  refine (roll_any C1.out 6 (by unfold fitI; omega)).mono ?_
  rintro e w4 ⟨rfl, b1, b2⟩
  have D1 : Hid (CupAt _ w4 p []) := Lib.hid b1; have D2 := Lib.hid b2
  clear b1 b2
  have e3 : rollF [] 6 = 1 := by decide +kernel
  rw [e3]
  go_wp2_with fail
  refine (left_any D1.out).mono ?_
  rintro e w5 ⟨rfl, rfl⟩
  go_wp2
  go_ret
  have hp : w.heap.size ≤ p := by have := A0.out; have := K0.out.size; omega
  exact ⟨rfl, ((A2.out.trans B2.out (fun b h => .inr (by omega))).trans C2.out (fun b h => .inr (by omega))).trans D2.out (fun b h => .inr (by omega))⟩

theorem Nums.of_seen {w : World} {v : Value} {l : List Int} (h : Seen w 1 v l.length (icells l)) : Nums (fun b => b < w.heap.size) w v l := ⟨h, fun b hb h0 => by
  obtain ⟨_, a, cap, rfl, _, _, h4⟩ := h
  obtain ⟨g, off, rfl, hg, _⟩ := h4.resolve_left (by omega)
  simp [Value.ownBlock] at hb; omega⟩

theorem CupAt.mono {N M : Nat → Prop} {w : World} {p : Nat} {xs : List Int} (h : CupAt N w p xs) (hN : ∀ b, N b → M b) (hp : ¬ M p) : CupAt M w p xs := by
  obtain ⟨v, h1, h2⟩ := h.ex
  exact ⟨⟨v, h1, h2.mono hN⟩, hp⟩
theorem RCup.at1 {N : Nat → Prop} {w : World} {p : Nat} {l : List Int} {k : Nat} (h : RCup N w p l k) : w.cell? ⟨p, 1, none⟩ = some (.int .i64 (k : Int)) := by
  obtain ⟨v, h1, _⟩ := h.ex; rw [cell_of_row _ _ _ _ _ _ h1]; rfl

theorem wpAnyZ_mono {P : Program} {ops : Array Oper} {Q : Exit → Act → World → Prop} {md : Region.Mode} {S T : World → Prop} (hST : ∀ w, S w → T w) : ∀ (fuel : Nat) (listed : Array Bool) (a : Act) (w : World), S w → Cd.wpAnyZ P md ops Q S [] fuel listed a w → Cd.wpAnyZ P md ops Q T [] fuel listed a w
  | 0, _, _, _, _, h => h
  | fuel + 1, _, _, _, hs, h => ⟨h.1, fun i hi => wpOp_mono (fun a' w' h' => ⟨fun _ _ => hST _ (h'.1 (by simp) hs), wpAnyZ_mono hST fuel _ a' w' (h'.1 (by simp) hs) h'.2⟩) (h.2 i hi)⟩

theorem wrap_low {x : Int} (h1 : 0 ≤ x) (h2 : x < 9223372036854775808) : IntKind.i64.wrap x = x := by
  obtain ⟨n, rfl⟩ := Int.eq_ofNat_of_zero_le h1
  simp [IntKind.wrap, IntKind.signed, IntKind.bits] <;> omega

theorem min_of {P : Program} (x y m : Int) (h : min x y = m) : ∀ (w : World) (ts : Array TypeId) (t : TypeId), (Builtin.min_ ts t #[.int .i64 x, .int .i64 y]).run P w = .ok (.int .i64 m) w := fun w ts t => by
  rw [Go.run_min_int2]
  congr 2
  split <;> omega
theorem max_of {P : Program} (x y m : Int) (h : max x y = m) : ∀ (w : World) (ts : Array TypeId) (t : TypeId), (Builtin.max_ ts t #[.int .i64 x, .int .i64 y]).run P w = .ok (.int .i64 m) w := fun w ts t => by
  rw [Go.run_max_int2]
  congr 2
  split <;> omega

/-- Where the law's loop stands: k throws are done, j numbers are taken. -/
structure DiR (w0 : World) (l : List Int) (pc pr : Nat) (iv : Value) (wr : World) : Prop where
  ex : ∃ k j : Nat, k ≤ 40 ∧ iv = .int .i64 (k : Int) ∧ j ≤ l.length ∧ CupAt (fun b => b ≠ pc ∧ b ≠ pr) wr pc (l.drop j) ∧ RCup (fun b => b < w0.heap.size) wr pr l j ∧ Keep (fun _ => False) w0 wr

set_option maxHeartbeats 2000000 in
theorem diceAll_any {w : World} {v1 v2 : Value} {l0 ss : List Int} (h1 : Seen w 1 v1 l0.length (icells l0)) (h2 : Seen w 1 v2 ss.length (icells ss)) (f1 : ∀ n ∈ l0, fitI n) (f2 : ∀ n ∈ ss, fitI n) : Calls Try.prog 3 #[v1, v2] w fun e w' => e = .returned (.bool true) ∧ Keep (fun _ => False) w w' := by
  have H1 := Lib.hid h1
  obtain ⟨_, a1, d1, rfl, hd1, hm1, h14⟩ := h1
  have H2 := Lib.hid h2
  obtain ⟨_, a2, d2, rfl, hd2, hm2, h24⟩ := h2
  unfold maxLen at hm1 hm2
  have H14 := Lib.hid h14
  have H24 := Lib.hid h24
  clear h14 h24
  go_enter Try.func3, Try.ntmps3
  go_wp2_with fail
  refine begun_any.mono ?_
  rintro e w1 ⟨rfl, k1⟩
  have K1 := Lib.hid k1
  clear k1
  go_upto_if 16 with (fail)
  go_cut [0] from 17 to 18 (fun v wx => wx = w1 ∧ ∃ (l : List Int) (d : Nat), v = .slice a1 l.length d ∧ l.length ≤ 30 ∧ (∀ n ∈ l, fitI n) ∧ Seen w 1 (.slice a1 l.length d) l.length (icells l))
  case first =>
    by_cases hl : 30 < l0.length
    · have t1 : decide (30 < (l0.length : Int)) = true := by rw [decide_eq_true_eq]; omega
      go_wp2
      go_meet
      refine ⟨rfl, l0.take 30, d1, by rw [List.length_take, Nat.min_eq_left (by omega)], by rw [List.length_take]; omega, fun n hn => f1 n (List.mem_of_mem_take hn), ?_⟩
      have e30 : (l0.take 30).length = 30 := by rw [List.length_take]; omega
      refine ⟨by simp [icells], a1, d1, rfl, by omega, hm1, .inr ?_⟩
      obtain ⟨g, off, ha, hg, q⟩ := H14.out.resolve_left (by omega)
      refine ⟨g, off, ha, hg, fun j u hu => q j u ?_⟩
      have e : icells (l0.take 30) = (icells l0).take 30 := by simp [icells, List.map_take]
      rw [e, List.getElem?_take] at hu
      split at hu
      · exact hu
      · cases hu
    · have t1 : decide (30 < (l0.length : Int)) = false := by rw [decide_eq_false_iff_not]; omega
      go_wp2
      go_meet
      exact ⟨rfl, l0, d1, rfl, by omega, f1, H1.out⟩
  case rest =>
    obtain ⟨rfl, l, d, rfl, hl30, hlf, hls⟩ := hcut
    have HLS := Lib.hid hls
    have HLW : Hid (Seen wc 1 (.slice a1 l.length d) l.length (icells l)) := Lib.hid (hls.keep K1.out (fun _ _ _ h => h))
    have HSW := Lib.hid (H2.out.keep K1.out (fun _ _ _ h => h))
    clear hls
    go_wp2_with fail
    refine (new_any HLW.out (by omega)).mono ?_
    rintro e w2 ⟨pc, rfl, a0, b1, b2⟩
    have A0 := Lib.hid a0; have B1 := Lib.hid b1; have B2 := Lib.hid (K1.out.trans b2 (fun _ h => h.elim))
    clear a0 b1 b2
    go_wp2_with fail
    obtain ⟨pr, hpr⟩ : ∃ pr, pr = w2.heap.size := ⟨_, rfl⟩
    have hcr : pc < pr := by rw [hpr]; exact B1.out.lt
    have hwp : w.heap.size ≤ pc := Nat.le_trans K1.out.size A0.out
    have K3 : Keep (fun _ => False) w2 (w2.alloc (.cells #[.slice a1 l.length d, .int .i64 0] 28)) := (Keep.refl (fun _ => False) w2).alloc _
    have HC : Hid (CupAt (fun b => b ≠ pc ∧ b ≠ pr) (w2.alloc (.cells #[.slice a1 l.length d, .int .i64 0] 28)) pc (l.drop 0)) := Lib.hid ((B1.out.keep K3 (fun h => h) (fun _ _ h => h)).mono (fun b hb => ⟨by omega, by omega⟩) (fun h => h.1 rfl))
    have HR : Hid (RCup (fun b => b < w.heap.size) (w2.alloc (.cells #[.slice a1 l.length d, .int .i64 0] 28)) pr l 0) := Lib.hid ⟨⟨_, by rw [hpr]; exact heap_alloc_new w2 _, (Nums.of_seen HLS.out).keep (B2.out.trans K3 (fun _ h => h.elim)) (fun _ _ h => h)⟩, by omega, by omega, by omega, hlf⟩
    have HK : Hid (Keep (fun _ => False) w (w2.alloc (.cells #[.slice a1 l.length d, .int .i64 0] 28))) := Lib.hid (B2.out.trans K3 (fun _ h => h.elim))
    rw [← hpr]
    clear K3 hpr HLW HSW B1 B2 A0 K1 H1 HLS
    go_loopw [9, 10] (fun iv _ wr => DiR w l pc pr iv wr) (fun iv _ _ => 40 - (intOf iv).toNat)
    case atStart => exact ⟨0, 0, by omega, rfl, by omega, HC.out, HR.out, HK.out⟩
    case round =>
      obtain ⟨k, j, hk, rfl, hj, hC, hR, hK⟩ := hrel.ex
      have HC1 := Lib.hid hC; have HR1 := Lib.hid hR; have HK1 := Lib.hid hK
      clear HC HR HK hC hR hK hrel
      by_cases t1 : k < ss.length
      · by_cases t2 : k < 40
        · obtain ⟨g2, o2, rfl, hg, q⟩ := H24.out.resolve_left (by omega)
          obtain ⟨s, hs⟩ : ∃ s, ss[k]? = some s := ⟨_, List.getElem?_eq_getElem t1⟩
          have hsf := f2 s (List.mem_of_getElem? hs)
          have e1 : wr.cell? ⟨g2, o2 + k, none⟩ = some (.int .i64 s) := (HK1.out.cell hg (fun h => h) _).trans (q k _ (icells_get hs))
          have hg2p : ¬ g2 = pc := by omega
          have hg2 : ¬ g2 = pr := by omega
          have hcp : ¬ pc = pr := by omega
          obtain ⟨T, hT⟩ : ∃ T, T = takenF l j s := ⟨_, rfl⟩
          obtain ⟨R, hR⟩ : ∃ R, R = rollF (l.drop j) s := ⟨_, rfl⟩
          have hTl : T ≤ l.length := by rw [hT]; unfold takenF; split <;> omega
          have hdr : (if s < 1 then l.drop j else (l.drop j).tail) = l.drop T := by
            rw [hT]; unfold takenF
            split
            · rfl
            · rw [List.tail_drop]
              rcases Nat.lt_or_ge j l.length with h | h
              · rw [Nat.min_eq_left h]
              · rw [Nat.min_eq_right (by omega), List.drop_eq_nil_of_le (by omega), List.drop_eq_nil_of_le (by omega)]
          have HLL : Hid (((l.drop T).length : Int) = (l.length : Int) - (T : Int)) := Lib.hid (by rw [List.length_drop]; omega)
          have HT := Lib.hid hT; have HRR := Lib.hid hR; have HDR := Lib.hid hdr; have HSS := Lib.hid hs; have HSF := Lib.hid hsf
          clear hT hR hdr hs q hsf
          go_upto_region 13 with (go_at_call 6; (with_reducible refine (roll_any HC1.out s HSF.out).mono ?_); rw [← HRR.out, HDR.out]; rintro e w4 ⟨rfl, c1, c2⟩; have C1 := Lib.hid c1; have C2 := Lib.hid c2; clear c1 c2)
          have HC0 : Hid (CupAt (fun b => b ≠ pc ∧ b ≠ pr) w4.drew pc (l.drop T)) := Lib.hid (C1.out.keep (F := fun _ => False) (Keep.refl _ w4).drew (fun h => h) (fun _ _ h => h))
          have HR0 : Hid (RCup (fun b => b < w.heap.size) w4.drew pr l j) := Lib.hid (HR1.out.keep C2.out.drew (fun h => hcp h.symm) (fun b hb h => by omega))
          have HS0 : Hid (w4.drew.cell? ⟨g2, o2 + k, none⟩ = some (.int .i64 s)) := Lib.hid ((C2.out.drew.cell (by have := HK1.out.size; omega) hg2p _).trans e1)
          have HG2 : Hid (g2 < w4.drew.heap.size) := Lib.hid (by have := HK1.out.size; have := C2.out.drew.size; omega)
          have HKD : Hid (Keep (fun _ => False) w w4.drew) := Lib.hid (HK1.out.trans C2.out.drew (fun b h => .inr (by omega)))
          have hsf := HSF.out
          have HRL := Lib.hid HRR.out.symm
          have HTL := Lib.hid HT.out.symm
          clear e1 C1 C2 HC1 HR1 HK1 HRR HT H2 H24 H14
          have hsu := hsf
          unfold fitI at hsu
          have hwr : IntKind.i64.wrap ((l.length : Int) - (T : Int)) = (l.length : Int) - (T : Int) := wrap_low (by omega) (by omega)
          have d9 : (((l.length : Int) - (T : Int)) != ((l.length : Int) - (T : Int))) = false := by simp
          by_cases hs1 : s < 1
          · have hR0 : R = 0 := by rw [← HRL.out]; unfold rollF; rw [if_pos hs1]
            subst hR0
            have p1 : decide (0 < s) = false := by rw [decide_eq_false_iff_not]; omega
            have hmx := max_of (P := Try.prog) 0 s 0 (by omega)
            have hmn := min_of (P := Try.prog) 1 0 0 (by omega)
            have HNR := Lib.hid (fun w9 : World => roll_low (w := w9) (.pointer none) s hs1)
            clear hs1
            refine Cd.wp_region_z (fun w9 : World => w9.cell? ⟨g2, o2 + k, none⟩ = some (.int .i64 s)) [] (by kernel_rfl) ?_
            generalize w4.drew = wd at *
            -- NEG<
            refine Cd.wpAnyZ_takeD (i := 0) (d := 40) (v := ?_) rfl rfl (by kernel_rfl) (by kernel_rfl) (by kernel_rfl) (fun _ _ _ h => h) (by rfl) ?_ ?_
            rotate_left 1
            · (intro w9; go_simp <;> with_reducible rfl)
            simp only [Act.put, List.setIfInBounds_toArray, List.set_cons_succ, List.set_cons_zero]
            refine Cd.wpAnyZ_takeD (i := 1) (d := 41) (v := ?_) rfl rfl (by kernel_rfl) (by kernel_rfl) (by kernel_rfl) (fun _ _ _ h => h) (by rfl) ?_ ?_
            rotate_left 1
            · (intro w9; go_simp <;> with_reducible rfl)
            simp only [Act.put, List.setIfInBounds_toArray, List.set_cons_succ, List.set_cons_zero]
            refine Cd.wpAnyZ_takeD (i := 2) (d := 42) (v := ?_) rfl rfl (by kernel_rfl) (by kernel_rfl) (by kernel_rfl) (fun _ _ _ h => h) (by rfl) ?_ ?_
            rotate_left 1
            · (intro w9; go_simp <;> with_reducible rfl)
            simp only [Act.put, List.setIfInBounds_toArray, List.set_cons_succ, List.set_cons_zero]
            refine Cd.wpAnyZ_takeD (i := 3) (d := 43) (v := ?_) rfl rfl (by kernel_rfl) (by kernel_rfl) (by kernel_rfl) (fun _ _ _ h => h) (by rfl) ?_ ?_
            rotate_left 1
            · (intro w9; go_simp <;> with_reducible rfl)
            simp only [Act.put, List.setIfInBounds_toArray, List.set_cons_succ, List.set_cons_zero]
            refine Cd.wpAnyZ_takeD (i := 4) (d := 44) (v := ?_) rfl rfl (by kernel_rfl) (by kernel_rfl) (by kernel_rfl) (fun _ _ _ h => h) (by rfl) ?_ ?_
            rotate_left 1
            · (intro w9; go_simp <;> with_reducible rfl)
            simp only [Act.put, List.setIfInBounds_toArray, List.set_cons_succ, List.set_cons_zero]
            refine Cd.wpAnyZ_loadD (i := 5) (d := 45) (v := ?_) rfl rfl (by kernel_rfl) (by kernel_rfl) (by kernel_rfl) (by kernel_rfl) (fun _ _ _ h => h) HS0.out (by rfl) ?_ ?_
            rotate_left 1
            · (intro w9 hS9; have s0 := hS9; go_simp <;> with_reducible rfl)
            simp only [Act.put, List.setIfInBounds_toArray, List.set_cons_succ, List.set_cons_zero]
            refine Cd.wpAnyZ_one (i := 6) rfl (by kernel_rfl) (by rfl) ?_
            intro K9 hK9
            go_simp
            go_at_call 7
            (with_reducible refine (refRoll_any HR0.out s hsf).mono ?_)
            rw [HRL.out, HTL.out]
            rintro e w2 ⟨rfl, c1, c2⟩
            have C1 := Lib.hid c1; have C2 := Lib.hid c2
            have CA := Lib.hid (HC0.out.keep c2 hcp (fun b hb => hb.2))
            have S9 : Hid (w2.cell? ⟨g2, o2 + k, none⟩ = some (.int .i64 s) ∧ w2.cell? ⟨pr, 1, none⟩ = some (.int .i64 (T : Int))) := Lib.hid ⟨(c2.cell HG2.out hg2 _).trans HS0.out, c1.at1⟩
            clear c1 c2
            refine hK9.out _ _ (fun _ _ => S9.out.1) ?_
            clear hK9 K9
            refine wpAnyZ_mono (S := fun w9 : World => w9.cell? ⟨g2, o2 + k, none⟩ = some (.int .i64 s) ∧ w9.cell? ⟨pr, 1, none⟩ = some (.int .i64 (T : Int))) (fun _ h => h.1) _ _ _ _ S9.out ?_
            refine Cd.wpAnyZ_takeD (i := 7) (d := 47) (v := ?_) rfl rfl (by kernel_rfl) (by kernel_rfl) (by kernel_rfl) (fun _ _ _ h => h) (by rfl) ?_ ?_
            rotate_left 1
            · (intro w9; go_simp <;> with_reducible rfl)
            simp only [Act.put, List.setIfInBounds_toArray, List.set_cons_succ, List.set_cons_zero]
            refine Cd.wpAnyZ_takeD (i := 8) (d := 48) (v := ?_) rfl rfl (by kernel_rfl) (by kernel_rfl) (by kernel_rfl) (fun _ _ _ h => h) (by rfl) ?_ ?_
            rotate_left 1
            · (intro w9; go_simp <;> with_reducible rfl)
            simp only [Act.put, List.setIfInBounds_toArray, List.set_cons_succ, List.set_cons_zero]
            refine Cd.wpAnyZ_takeD (i := 9) (d := 49) (v := ?_) rfl rfl (by kernel_rfl) (by kernel_rfl) (by kernel_rfl) (fun _ _ _ h => h) (by rfl) ?_ ?_
            rotate_left 1
            · (intro w9; go_simp <;> with_reducible rfl)
            simp only [Act.put, List.setIfInBounds_toArray, List.set_cons_succ, List.set_cons_zero]
            refine Cd.wpAnyZ_takeD (i := 11) (d := 51) (v := ?_) rfl rfl (by kernel_rfl) (by kernel_rfl) (by kernel_rfl) (fun _ _ _ h => h) (by rfl) ?_ ?_
            rotate_left 1
            · (intro w9; go_simp <;> with_reducible rfl)
            simp only [Act.put, List.setIfInBounds_toArray, List.set_cons_succ, List.set_cons_zero]
            refine Cd.wpAnyZ_takeD (i := 12) (d := 52) (v := ?_) rfl rfl (by kernel_rfl) (by kernel_rfl) (by kernel_rfl) (fun _ _ _ h => h) (by rfl) ?_ ?_
            rotate_left 1
            · (intro w9; go_simp <;> with_reducible rfl)
            simp only [Act.put, List.setIfInBounds_toArray, List.set_cons_succ, List.set_cons_zero]
            refine Cd.wpAnyZ_takeD (i := 13) (d := 53) (v := ?_) rfl rfl (by kernel_rfl) (by kernel_rfl) (by kernel_rfl) (fun _ _ _ h => h) (by rfl) ?_ ?_
            rotate_left 1
            · (intro w9; go_simp <;> with_reducible rfl)
            simp only [Act.put, List.setIfInBounds_toArray, List.set_cons_succ, List.set_cons_zero]
            refine Cd.wpAnyZ_takeD (i := 14) (d := 54) (v := ?_) rfl rfl (by kernel_rfl) (by kernel_rfl) (by kernel_rfl) (fun _ _ _ h => h) (by rfl) ?_ ?_
            rotate_left 1
            · (intro w9; go_simp <;> with_reducible rfl)
            simp only [Act.put, List.setIfInBounds_toArray, List.set_cons_succ, List.set_cons_zero]
            refine Cd.wpAnyZ_takeD (i := 15) (d := 55) (v := ?_) rfl rfl (by kernel_rfl) (by kernel_rfl) (by kernel_rfl) (fun _ _ _ h => h) (by rfl) ?_ ?_
            rotate_left 1
            · (intro w9; go_simp <;> with_reducible rfl)
            simp only [Act.put, List.setIfInBounds_toArray, List.set_cons_succ, List.set_cons_zero]
            refine Cd.wpAnyZ_loadD (i := 16) (d := 56) (v := ?_) rfl rfl (by kernel_rfl) (by kernel_rfl) (by kernel_rfl) (by kernel_rfl) (fun _ _ _ h => h) S9.out (by rfl) ?_ ?_
            rotate_left 1
            · (intro w9 hS9; obtain ⟨s0, s1⟩ := hS9; go_simp <;> with_reducible rfl)
            simp only [Act.put, List.setIfInBounds_toArray, List.set_cons_succ, List.set_cons_zero]
            refine Cd.wpAnyZ_takeD (i := 17) (d := 57) (v := ?_) rfl rfl (by kernel_rfl) (by kernel_rfl) (by kernel_rfl) (fun _ _ _ h => h) (by rfl) ?_ ?_
            rotate_left 1
            · (intro w9; go_simp <;> with_reducible rfl)
            simp only [Act.put, List.setIfInBounds_toArray, List.set_cons_succ, List.set_cons_zero]
            refine Cd.wpAnyZ_one (i := 10) rfl (by kernel_rfl) (by rfl) ?_
            intro K9 hK9
            go_simp
            go_at_call 8
            (with_reducible refine (left_any CA.out).mono ?_)
            rw [HLL.out]
            rintro e w3 ⟨rfl, rfl⟩
            refine hK9.out _ _ (fun _ _ => S9.out) ?_
            clear hK9 K9
            refine Cd.wpAnyZ_takeD (i := 18) (d := 58) (v := ?_) rfl rfl (by kernel_rfl) (by kernel_rfl) (by kernel_rfl) (fun _ _ _ h => h) (by rfl) ?_ ?_
            rotate_left 1
            · (intro w9; go_simp <;> with_reducible rfl)
            simp only [Act.put, List.setIfInBounds_toArray, List.set_cons_succ, List.set_cons_zero]
            refine Cd.wpAnyZ_takeD (i := 19) (d := 59) (v := ?_) rfl rfl (by kernel_rfl) (by kernel_rfl) (by kernel_rfl) (fun _ _ _ h => h) (by rfl) ?_ ?_
            rotate_left 1
            · (intro w9; go_simp <;> with_reducible rfl)
            simp only [Act.put, List.setIfInBounds_toArray, List.set_cons_succ, List.set_cons_zero]
            refine Cd.wpAnyZ_takeD (i := 20) (d := 60) (v := ?_) rfl rfl (by kernel_rfl) (by kernel_rfl) (by kernel_rfl) (fun _ _ _ h => h) (by rfl) ?_ ?_
            rotate_left 1
            · (intro w9; go_simp <;> with_reducible rfl)
            simp only [Act.put, List.setIfInBounds_toArray, List.set_cons_succ, List.set_cons_zero]
            refine Cd.wpAnyZ_takeD (i := 21) (d := 61) (v := ?_) rfl rfl (by kernel_rfl) (by kernel_rfl) (by kernel_rfl) (fun _ _ _ h => h) (by rfl) ?_ ?_
            rotate_left 1
            · (intro w9; go_simp <;> with_reducible rfl)
            simp only [Act.put, List.setIfInBounds_toArray, List.set_cons_succ, List.set_cons_zero]
            refine Cd.wpAnyZ_takeD (i := 22) (d := 62) (v := ?_) rfl rfl (by kernel_rfl) (by kernel_rfl) (by kernel_rfl) (fun _ _ _ h => h) (by rfl) ?_ ?_
            rotate_left 1
            · (intro w9; go_simp <;> with_reducible rfl)
            simp only [Act.put, List.setIfInBounds_toArray, List.set_cons_succ, List.set_cons_zero]
            refine Cd.wpAnyZ_takeD (i := 23) (d := 63) (v := ?_) rfl rfl (by kernel_rfl) (by kernel_rfl) (by kernel_rfl) (fun _ _ _ h => h) (by rfl) ?_ ?_
            rotate_left 1
            · (intro w9; go_simp <;> with_reducible rfl)
            simp only [Act.put, List.setIfInBounds_toArray, List.set_cons_succ, List.set_cons_zero]
            refine Cd.wpAnyZ_loadD (i := 24) (d := 64) (v := ?_) rfl rfl (by kernel_rfl) (by kernel_rfl) (by kernel_rfl) (by kernel_rfl) (fun _ _ _ h => h) S9.out (by rfl) ?_ ?_
            rotate_left 1
            · (intro w9 hS9; obtain ⟨s0, s1⟩ := hS9; go_simp <;> with_reducible rfl)
            simp only [Act.put, List.setIfInBounds_toArray, List.set_cons_succ, List.set_cons_zero]
            refine Cd.wpAnyZ_takeD (i := 25) (d := 65) (v := ?_) rfl rfl (by kernel_rfl) (by kernel_rfl) (by kernel_rfl) (fun _ _ _ h => h) (by rfl) ?_ ?_
            rotate_left 1
            · (intro w9; go_simp <;> with_reducible rfl)
            simp only [Act.put, List.setIfInBounds_toArray, List.set_cons_succ, List.set_cons_zero]
            refine Cd.wpAnyZ_takeD (i := 26) (d := 66) (v := ?_) rfl rfl (by kernel_rfl) (by kernel_rfl) (by kernel_rfl) (fun _ _ _ h => h) (by rfl) ?_ ?_
            rotate_left 1
            · (intro w9; go_simp <;> with_reducible rfl)
            simp only [Act.put, List.setIfInBounds_toArray, List.set_cons_succ, List.set_cons_zero]
            refine Cd.wpAnyZ_skipD (i := 27) (d := 67) rfl rfl (by kernel_rfl) (by kernel_rfl) (by kernel_rfl) (fun _ _ _ h => h) (by rfl) ?_
            simp only [Act.put, List.setIfInBounds_toArray, List.set_cons_succ, List.set_cons_zero]
            refine Cd.wpAnyZ_skipD (i := 28) (d := 68) rfl rfl (by kernel_rfl) (by kernel_rfl) (by kernel_rfl) (fun _ _ _ h => h) (by rfl) ?_
            simp only [Act.put, List.setIfInBounds_toArray, List.set_cons_succ, List.set_cons_zero]
            refine Cd.wpAnyZ_skipD (i := 29) (d := 69) rfl rfl (by kernel_rfl) (by kernel_rfl) (by kernel_rfl) (fun _ _ _ h => h) (by rfl) ?_
            simp only [Act.put, List.setIfInBounds_toArray, List.set_cons_succ, List.set_cons_zero]
            refine Cd.wpAnyZ_skipD (i := 30) (d := 70) rfl rfl (by kernel_rfl) (by kernel_rfl) (by kernel_rfl) (fun _ _ _ h => h) (by rfl) ?_
            simp only [Act.put, List.setIfInBounds_toArray, List.set_cons_succ, List.set_cons_zero]
            refine Cd.wpAnyZ_skipD (i := 31) (d := 71) rfl rfl (by kernel_rfl) (by kernel_rfl) (by kernel_rfl) (fun _ _ _ h => h) (by rfl) ?_
            simp only [Act.put, List.setIfInBounds_toArray, List.set_cons_succ, List.set_cons_zero]
            refine Cd.wpAnyZ_skipD (i := 32) (d := 72) rfl rfl (by kernel_rfl) (by kernel_rfl) (by kernel_rfl) (fun _ _ _ h => h) (by rfl) ?_
            simp only [Act.put, List.setIfInBounds_toArray, List.set_cons_succ, List.set_cons_zero]
            refine Cd.wpAnyZ_skipD (i := 33) (d := 73) rfl rfl (by kernel_rfl) (by kernel_rfl) (by kernel_rfl) (fun _ _ _ h => h) (by rfl) ?_
            simp only [Act.put, List.setIfInBounds_toArray, List.set_cons_succ, List.set_cons_zero]
            refine Cd.wpAnyZ_skipD (i := 34) (d := 74) rfl rfl (by kernel_rfl) (by kernel_rfl) (by kernel_rfl) (fun _ _ _ h => h) (by rfl) ?_
            simp only [Act.put, List.setIfInBounds_toArray, List.set_cons_succ, List.set_cons_zero]
            refine Cd.wpAnyZ_skipD (i := 35) (d := 75) rfl rfl (by kernel_rfl) (by kernel_rfl) (by kernel_rfl) (fun _ _ _ h => h) (by rfl) ?_
            simp only [Act.put, List.setIfInBounds_toArray, List.set_cons_succ, List.set_cons_zero]
            refine Cd.wpAnyZ_skipD (i := 36) (d := 76) rfl rfl (by kernel_rfl) (by kernel_rfl) (by kernel_rfl) (fun _ _ _ h => h) (by rfl) ?_
            simp only [Act.put, List.setIfInBounds_toArray, List.set_cons_succ, List.set_cons_zero]
            refine Cd.wpAnyZ_takeD (i := 37) (d := 77) (v := ?_) rfl rfl (by kernel_rfl) (by kernel_rfl) (by kernel_rfl) (fun _ _ _ h => h) (by rfl) ?_ ?_
            rotate_left 1
            · (intro w9; go_simp <;> with_reducible rfl)
            simp only [Act.put, List.setIfInBounds_toArray, List.set_cons_succ, List.set_cons_zero]
            refine Cd.wpAnyZ_takeD (i := 38) (d := 78) (v := ?_) rfl rfl (by kernel_rfl) (by kernel_rfl) (by kernel_rfl) (fun _ _ _ h => h) (by rfl) ?_ ?_
            rotate_left 1
            · (intro w9; go_simp <;> with_reducible rfl)
            simp only [Act.put, List.setIfInBounds_toArray, List.set_cons_succ, List.set_cons_zero]
            refine Cd.wpAnyZ_takeD (i := 39) (d := 79) (v := ?_) rfl rfl (by kernel_rfl) (by kernel_rfl) (by kernel_rfl) (fun _ _ _ h => h) (by rfl) ?_ ?_
            rotate_left 1
            · (intro w9; go_simp <;> with_reducible rfl)
            simp only [Act.put, List.setIfInBounds_toArray, List.set_cons_succ, List.set_cons_zero]
            refine Cd.wpAnyZ_takeD (i := 40) (d := 80) (v := ?_) rfl rfl (by kernel_rfl) (by kernel_rfl) (by kernel_rfl) (fun _ _ _ h => h) (by rfl) ?_ ?_
            rotate_left 1
            · (intro w9; go_simp <;> with_reducible rfl)
            simp only [Act.put, List.setIfInBounds_toArray, List.set_cons_succ, List.set_cons_zero]
            refine Cd.wpAnyZ_takeD (i := 41) (d := 81) (v := ?_) rfl rfl (by kernel_rfl) (by kernel_rfl) (by kernel_rfl) (fun _ _ _ h => h) (by rfl) ?_ ?_
            rotate_left 1
            · (intro w9; go_simp <;> with_reducible rfl)
            simp only [Act.put, List.setIfInBounds_toArray, List.set_cons_succ, List.set_cons_zero]
            refine Cd.wpAnyZ_takeD (i := 42) (d := 82) (v := ?_) rfl rfl (by kernel_rfl) (by kernel_rfl) (by kernel_rfl) (fun _ _ _ h => h) (by rfl) ?_ ?_
            rotate_left 1
            · (intro w9; go_simp <;> with_reducible rfl)
            simp only [Act.put, List.setIfInBounds_toArray, List.set_cons_succ, List.set_cons_zero]
            refine Cd.wpAnyZ_takeD (i := 43) (d := 83) (v := ?_) rfl rfl (by kernel_rfl) (by kernel_rfl) (by kernel_rfl) (fun _ _ _ h => h) (by rfl) ?_ ?_
            rotate_left 1
            · (intro w9; go_simp <;> with_reducible rfl)
            simp only [Act.put, List.setIfInBounds_toArray, List.set_cons_succ, List.set_cons_zero]
            refine Cd.wpAnyZ_loadD (i := 44) (d := 84) (v := ?_) rfl rfl (by kernel_rfl) (by kernel_rfl) (by kernel_rfl) (by kernel_rfl) (fun _ _ _ h => h) S9.out (by rfl) ?_ ?_
            rotate_left 1
            · (intro w9 hS9; obtain ⟨s0, s1⟩ := hS9; go_simp <;> with_reducible rfl)
            simp only [Act.put, List.setIfInBounds_toArray, List.set_cons_succ, List.set_cons_zero]
            refine Cd.wpAnyZ_takeD (i := 46) (d := 86) (v := ?_) rfl rfl (by kernel_rfl) (by kernel_rfl) (by kernel_rfl) (fun _ _ _ h => h) (by rfl) ?_ ?_
            rotate_left 1
            · (intro w9; go_simp <;> with_reducible rfl)
            simp only [Act.put, List.setIfInBounds_toArray, List.set_cons_succ, List.set_cons_zero]
            refine Cd.wpAnyZ_takeD (i := 47) (d := 87) (v := ?_) rfl rfl (by kernel_rfl) (by kernel_rfl) (by kernel_rfl) (fun _ _ _ h => h) (by rfl) ?_ ?_
            rotate_left 1
            · (intro w9; go_simp <;> with_reducible rfl)
            simp only [Act.put, List.setIfInBounds_toArray, List.set_cons_succ, List.set_cons_zero]
            refine Cd.wpAnyZ_takeD (i := 48) (d := 88) (v := ?_) rfl rfl (by kernel_rfl) (by kernel_rfl) (by kernel_rfl) (fun _ _ _ h => h) (by rfl) ?_ ?_
            rotate_left 1
            · (intro w9; go_simp <;> with_reducible rfl)
            simp only [Act.put, List.setIfInBounds_toArray, List.set_cons_succ, List.set_cons_zero]
            refine Cd.wpAnyZ_loadD (i := 49) (d := 89) (v := ?_) rfl rfl (by kernel_rfl) (by kernel_rfl) (by kernel_rfl) (by kernel_rfl) (fun _ _ _ h => h) S9.out (by rfl) ?_ ?_
            rotate_left 1
            · (intro w9 hS9; obtain ⟨s0, s1⟩ := hS9; go_simp <;> with_reducible rfl)
            simp only [Act.put, List.setIfInBounds_toArray, List.set_cons_succ, List.set_cons_zero]
            refine Cd.wpAnyZ_takeD (i := 50) (d := 90) (v := ?_) rfl rfl (by kernel_rfl) (by kernel_rfl) (by kernel_rfl) (fun _ _ _ h => h) (by rfl) ?_ ?_
            rotate_left 1
            · (intro w9; go_simp <;> with_reducible rfl)
            simp only [Act.put, List.setIfInBounds_toArray, List.set_cons_succ, List.set_cons_zero]
            refine Cd.wpAnyZ_takeD (i := 51) (d := 91) (v := ?_) rfl rfl (by kernel_rfl) (by kernel_rfl) (by kernel_rfl) (fun _ _ _ h => h) (by rfl) ?_ ?_
            rotate_left 1
            · (intro w9; go_simp <;> with_reducible rfl)
            simp only [Act.put, List.setIfInBounds_toArray, List.set_cons_succ, List.set_cons_zero]
            refine Cd.wpAnyZ_one (i := 45) rfl (by kernel_rfl) (by rfl) ?_
            intro K9 hK9
            go_simp
            go_at_call 6
            (with_reducible refine (HNR.out _).mono ?_)
            rintro e w3 ⟨rfl, rfl⟩
            refine hK9.out _ _ (fun _ _ => S9.out) ?_
            clear hK9 K9
            refine Cd.wpAnyZ_takeD (i := 52) (d := 92) (v := ?_) rfl rfl (by kernel_rfl) (by kernel_rfl) (by kernel_rfl) (fun _ _ _ h => h) (by rfl) ?_ ?_
            rotate_left 1
            · (intro w9; go_simp <;> with_reducible rfl)
            simp only [Act.put, List.setIfInBounds_toArray, List.set_cons_succ, List.set_cons_zero]
            refine Cd.wpAnyZ_takeD (i := 53) (d := 93) (v := ?_) rfl rfl (by kernel_rfl) (by kernel_rfl) (by kernel_rfl) (fun _ _ _ h => h) (by rfl) ?_ ?_
            rotate_left 1
            · (intro w9; go_simp <;> with_reducible rfl)
            simp only [Act.put, List.setIfInBounds_toArray, List.set_cons_succ, List.set_cons_zero]
            refine Cd.wpAnyZ_done (by kernel_rfl) ?_ _
            -- NEG>
            go_wp2
            go_roundw
            case rel => exact ⟨k + 1, T, by omega, rfl, hTl, CA.out, C1.out, HKD.out.trans C2.out (fun b h => .inr (by have := HKD.out.size; omega))⟩
            case measure => simp [intOf]; omega
          · have hR1 : 1 ≤ R ∧ R ≤ s := by
              rw [← HRL.out]; unfold rollF; rw [if_neg hs1]
              split
              · omega
              · rename_i n xs _
                have := rest_fit n (s := s) (by omega)
                omega
            have p1 : decide (0 < s) = true := by rw [decide_eq_true_eq]; omega
            have p2 : decide (R < 1) = false := by rw [decide_eq_false_iff_not]; omega
            have p3 : decide (s < R) = false := by rw [decide_eq_false_iff_not]; omega
            have d8 : (R != R) = false := by simp
            have hmx := max_of (P := Try.prog) 0 s s (by omega)
            have hmn := min_of (P := Try.prog) 1 s 1 (by omega)
            have HNR := Lib.hid (fun w9 : World => roll_nil (w := w9) s hsf (by omega))
            clear hs1
            refine Cd.wp_region_z (fun w9 : World => w9.cell? ⟨g2, o2 + k, none⟩ = some (.int .i64 s)) [] (by kernel_rfl) ?_
            generalize w4.drew = wd at *
            -- POS<
            refine Cd.wpAnyZ_takeD (i := 0) (d := 40) (v := ?_) rfl rfl (by kernel_rfl) (by kernel_rfl) (by kernel_rfl) (fun _ _ _ h => h) (by rfl) ?_ ?_
            rotate_left 1
            · (intro w9; go_simp <;> with_reducible rfl)
            simp only [Act.put, List.setIfInBounds_toArray, List.set_cons_succ, List.set_cons_zero]
            refine Cd.wpAnyZ_takeD (i := 1) (d := 41) (v := ?_) rfl rfl (by kernel_rfl) (by kernel_rfl) (by kernel_rfl) (fun _ _ _ h => h) (by rfl) ?_ ?_
            rotate_left 1
            · (intro w9; go_simp <;> with_reducible rfl)
            simp only [Act.put, List.setIfInBounds_toArray, List.set_cons_succ, List.set_cons_zero]
            refine Cd.wpAnyZ_takeD (i := 2) (d := 42) (v := ?_) rfl rfl (by kernel_rfl) (by kernel_rfl) (by kernel_rfl) (fun _ _ _ h => h) (by rfl) ?_ ?_
            rotate_left 1
            · (intro w9; go_simp <;> with_reducible rfl)
            simp only [Act.put, List.setIfInBounds_toArray, List.set_cons_succ, List.set_cons_zero]
            refine Cd.wpAnyZ_takeD (i := 3) (d := 43) (v := ?_) rfl rfl (by kernel_rfl) (by kernel_rfl) (by kernel_rfl) (fun _ _ _ h => h) (by rfl) ?_ ?_
            rotate_left 1
            · (intro w9; go_simp <;> with_reducible rfl)
            simp only [Act.put, List.setIfInBounds_toArray, List.set_cons_succ, List.set_cons_zero]
            refine Cd.wpAnyZ_takeD (i := 4) (d := 44) (v := ?_) rfl rfl (by kernel_rfl) (by kernel_rfl) (by kernel_rfl) (fun _ _ _ h => h) (by rfl) ?_ ?_
            rotate_left 1
            · (intro w9; go_simp <;> with_reducible rfl)
            simp only [Act.put, List.setIfInBounds_toArray, List.set_cons_succ, List.set_cons_zero]
            refine Cd.wpAnyZ_loadD (i := 5) (d := 45) (v := ?_) rfl rfl (by kernel_rfl) (by kernel_rfl) (by kernel_rfl) (by kernel_rfl) (fun _ _ _ h => h) HS0.out (by rfl) ?_ ?_
            rotate_left 1
            · (intro w9 hS9; have s0 := hS9; go_simp <;> with_reducible rfl)
            simp only [Act.put, List.setIfInBounds_toArray, List.set_cons_succ, List.set_cons_zero]
            refine Cd.wpAnyZ_one (i := 6) rfl (by kernel_rfl) (by rfl) ?_
            intro K9 hK9
            go_simp
            go_at_call 7
            (with_reducible refine (refRoll_any HR0.out s hsf).mono ?_)
            rw [HRL.out, HTL.out]
            rintro e w2 ⟨rfl, c1, c2⟩
            have C1 := Lib.hid c1; have C2 := Lib.hid c2
            have CA := Lib.hid (HC0.out.keep c2 hcp (fun b hb => hb.2))
            have S9 : Hid (w2.cell? ⟨g2, o2 + k, none⟩ = some (.int .i64 s) ∧ w2.cell? ⟨pr, 1, none⟩ = some (.int .i64 (T : Int))) := Lib.hid ⟨(c2.cell HG2.out hg2 _).trans HS0.out, c1.at1⟩
            clear c1 c2
            refine hK9.out _ _ (fun _ _ => S9.out.1) ?_
            clear hK9 K9
            refine wpAnyZ_mono (S := fun w9 : World => w9.cell? ⟨g2, o2 + k, none⟩ = some (.int .i64 s) ∧ w9.cell? ⟨pr, 1, none⟩ = some (.int .i64 (T : Int))) (fun _ h => h.1) _ _ _ _ S9.out ?_
            refine Cd.wpAnyZ_takeD (i := 7) (d := 47) (v := ?_) rfl rfl (by kernel_rfl) (by kernel_rfl) (by kernel_rfl) (fun _ _ _ h => h) (by rfl) ?_ ?_
            rotate_left 1
            · (intro w9; go_simp <;> with_reducible rfl)
            simp only [Act.put, List.setIfInBounds_toArray, List.set_cons_succ, List.set_cons_zero]
            refine Cd.wpAnyZ_takeD (i := 8) (d := 48) (v := ?_) rfl rfl (by kernel_rfl) (by kernel_rfl) (by kernel_rfl) (fun _ _ _ h => h) (by rfl) ?_ ?_
            rotate_left 1
            · (intro w9; go_simp <;> with_reducible rfl)
            simp only [Act.put, List.setIfInBounds_toArray, List.set_cons_succ, List.set_cons_zero]
            refine Cd.wpAnyZ_takeD (i := 9) (d := 49) (v := ?_) rfl rfl (by kernel_rfl) (by kernel_rfl) (by kernel_rfl) (fun _ _ _ h => h) (by rfl) ?_ ?_
            rotate_left 1
            · (intro w9; go_simp <;> with_reducible rfl)
            simp only [Act.put, List.setIfInBounds_toArray, List.set_cons_succ, List.set_cons_zero]
            refine Cd.wpAnyZ_takeD (i := 11) (d := 51) (v := ?_) rfl rfl (by kernel_rfl) (by kernel_rfl) (by kernel_rfl) (fun _ _ _ h => h) (by rfl) ?_ ?_
            rotate_left 1
            · (intro w9; go_simp <;> with_reducible rfl)
            simp only [Act.put, List.setIfInBounds_toArray, List.set_cons_succ, List.set_cons_zero]
            refine Cd.wpAnyZ_takeD (i := 12) (d := 52) (v := ?_) rfl rfl (by kernel_rfl) (by kernel_rfl) (by kernel_rfl) (fun _ _ _ h => h) (by rfl) ?_ ?_
            rotate_left 1
            · (intro w9; go_simp <;> with_reducible rfl)
            simp only [Act.put, List.setIfInBounds_toArray, List.set_cons_succ, List.set_cons_zero]
            refine Cd.wpAnyZ_takeD (i := 13) (d := 53) (v := ?_) rfl rfl (by kernel_rfl) (by kernel_rfl) (by kernel_rfl) (fun _ _ _ h => h) (by rfl) ?_ ?_
            rotate_left 1
            · (intro w9; go_simp <;> with_reducible rfl)
            simp only [Act.put, List.setIfInBounds_toArray, List.set_cons_succ, List.set_cons_zero]
            refine Cd.wpAnyZ_takeD (i := 14) (d := 54) (v := ?_) rfl rfl (by kernel_rfl) (by kernel_rfl) (by kernel_rfl) (fun _ _ _ h => h) (by rfl) ?_ ?_
            rotate_left 1
            · (intro w9; go_simp <;> with_reducible rfl)
            simp only [Act.put, List.setIfInBounds_toArray, List.set_cons_succ, List.set_cons_zero]
            refine Cd.wpAnyZ_takeD (i := 15) (d := 55) (v := ?_) rfl rfl (by kernel_rfl) (by kernel_rfl) (by kernel_rfl) (fun _ _ _ h => h) (by rfl) ?_ ?_
            rotate_left 1
            · (intro w9; go_simp <;> with_reducible rfl)
            simp only [Act.put, List.setIfInBounds_toArray, List.set_cons_succ, List.set_cons_zero]
            refine Cd.wpAnyZ_loadD (i := 16) (d := 56) (v := ?_) rfl rfl (by kernel_rfl) (by kernel_rfl) (by kernel_rfl) (by kernel_rfl) (fun _ _ _ h => h) S9.out (by rfl) ?_ ?_
            rotate_left 1
            · (intro w9 hS9; obtain ⟨s0, s1⟩ := hS9; go_simp <;> with_reducible rfl)
            simp only [Act.put, List.setIfInBounds_toArray, List.set_cons_succ, List.set_cons_zero]
            refine Cd.wpAnyZ_takeD (i := 17) (d := 57) (v := ?_) rfl rfl (by kernel_rfl) (by kernel_rfl) (by kernel_rfl) (fun _ _ _ h => h) (by rfl) ?_ ?_
            rotate_left 1
            · (intro w9; go_simp <;> with_reducible rfl)
            simp only [Act.put, List.setIfInBounds_toArray, List.set_cons_succ, List.set_cons_zero]
            refine Cd.wpAnyZ_one (i := 10) rfl (by kernel_rfl) (by rfl) ?_
            intro K9 hK9
            go_simp
            go_at_call 8
            (with_reducible refine (left_any CA.out).mono ?_)
            rw [HLL.out]
            rintro e w3 ⟨rfl, rfl⟩
            refine hK9.out _ _ (fun _ _ => S9.out) ?_
            clear hK9 K9
            refine Cd.wpAnyZ_takeD (i := 18) (d := 58) (v := ?_) rfl rfl (by kernel_rfl) (by kernel_rfl) (by kernel_rfl) (fun _ _ _ h => h) (by rfl) ?_ ?_
            rotate_left 1
            · (intro w9; go_simp <;> with_reducible rfl)
            simp only [Act.put, List.setIfInBounds_toArray, List.set_cons_succ, List.set_cons_zero]
            refine Cd.wpAnyZ_takeD (i := 19) (d := 59) (v := ?_) rfl rfl (by kernel_rfl) (by kernel_rfl) (by kernel_rfl) (fun _ _ _ h => h) (by rfl) ?_ ?_
            rotate_left 1
            · (intro w9; go_simp <;> with_reducible rfl)
            simp only [Act.put, List.setIfInBounds_toArray, List.set_cons_succ, List.set_cons_zero]
            refine Cd.wpAnyZ_takeD (i := 20) (d := 60) (v := ?_) rfl rfl (by kernel_rfl) (by kernel_rfl) (by kernel_rfl) (fun _ _ _ h => h) (by rfl) ?_ ?_
            rotate_left 1
            · (intro w9; go_simp <;> with_reducible rfl)
            simp only [Act.put, List.setIfInBounds_toArray, List.set_cons_succ, List.set_cons_zero]
            refine Cd.wpAnyZ_takeD (i := 21) (d := 61) (v := ?_) rfl rfl (by kernel_rfl) (by kernel_rfl) (by kernel_rfl) (fun _ _ _ h => h) (by rfl) ?_ ?_
            rotate_left 1
            · (intro w9; go_simp <;> with_reducible rfl)
            simp only [Act.put, List.setIfInBounds_toArray, List.set_cons_succ, List.set_cons_zero]
            refine Cd.wpAnyZ_takeD (i := 22) (d := 62) (v := ?_) rfl rfl (by kernel_rfl) (by kernel_rfl) (by kernel_rfl) (fun _ _ _ h => h) (by rfl) ?_ ?_
            rotate_left 1
            · (intro w9; go_simp <;> with_reducible rfl)
            simp only [Act.put, List.setIfInBounds_toArray, List.set_cons_succ, List.set_cons_zero]
            refine Cd.wpAnyZ_takeD (i := 23) (d := 63) (v := ?_) rfl rfl (by kernel_rfl) (by kernel_rfl) (by kernel_rfl) (fun _ _ _ h => h) (by rfl) ?_ ?_
            rotate_left 1
            · (intro w9; go_simp <;> with_reducible rfl)
            simp only [Act.put, List.setIfInBounds_toArray, List.set_cons_succ, List.set_cons_zero]
            refine Cd.wpAnyZ_loadD (i := 24) (d := 64) (v := ?_) rfl rfl (by kernel_rfl) (by kernel_rfl) (by kernel_rfl) (by kernel_rfl) (fun _ _ _ h => h) S9.out (by rfl) ?_ ?_
            rotate_left 1
            · (intro w9 hS9; obtain ⟨s0, s1⟩ := hS9; go_simp <;> with_reducible rfl)
            simp only [Act.put, List.setIfInBounds_toArray, List.set_cons_succ, List.set_cons_zero]
            refine Cd.wpAnyZ_takeD (i := 25) (d := 65) (v := ?_) rfl rfl (by kernel_rfl) (by kernel_rfl) (by kernel_rfl) (fun _ _ _ h => h) (by rfl) ?_ ?_
            rotate_left 1
            · (intro w9; go_simp <;> with_reducible rfl)
            simp only [Act.put, List.setIfInBounds_toArray, List.set_cons_succ, List.set_cons_zero]
            refine Cd.wpAnyZ_takeD (i := 26) (d := 66) (v := ?_) rfl rfl (by kernel_rfl) (by kernel_rfl) (by kernel_rfl) (fun _ _ _ h => h) (by rfl) ?_ ?_
            rotate_left 1
            · (intro w9; go_simp <;> with_reducible rfl)
            simp only [Act.put, List.setIfInBounds_toArray, List.set_cons_succ, List.set_cons_zero]
            refine Cd.wpAnyZ_takeD (i := 27) (d := 67) (v := ?_) rfl rfl (by kernel_rfl) (by kernel_rfl) (by kernel_rfl) (fun _ _ _ h => h) (by rfl) ?_ ?_
            rotate_left 1
            · (intro w9; go_simp <;> with_reducible rfl)
            simp only [Act.put, List.setIfInBounds_toArray, List.set_cons_succ, List.set_cons_zero]
            refine Cd.wpAnyZ_takeD (i := 28) (d := 68) (v := ?_) rfl rfl (by kernel_rfl) (by kernel_rfl) (by kernel_rfl) (fun _ _ _ h => h) (by rfl) ?_ ?_
            rotate_left 1
            · (intro w9; go_simp <;> with_reducible rfl)
            simp only [Act.put, List.setIfInBounds_toArray, List.set_cons_succ, List.set_cons_zero]
            refine Cd.wpAnyZ_takeD (i := 29) (d := 69) (v := ?_) rfl rfl (by kernel_rfl) (by kernel_rfl) (by kernel_rfl) (fun _ _ _ h => h) (by rfl) ?_ ?_
            rotate_left 1
            · (intro w9; go_simp <;> with_reducible rfl)
            simp only [Act.put, List.setIfInBounds_toArray, List.set_cons_succ, List.set_cons_zero]
            refine Cd.wpAnyZ_takeD (i := 30) (d := 70) (v := ?_) rfl rfl (by kernel_rfl) (by kernel_rfl) (by kernel_rfl) (fun _ _ _ h => h) (by rfl) ?_ ?_
            rotate_left 1
            · (intro w9; go_simp <;> with_reducible rfl)
            simp only [Act.put, List.setIfInBounds_toArray, List.set_cons_succ, List.set_cons_zero]
            refine Cd.wpAnyZ_takeD (i := 31) (d := 71) (v := ?_) rfl rfl (by kernel_rfl) (by kernel_rfl) (by kernel_rfl) (fun _ _ _ h => h) (by rfl) ?_ ?_
            rotate_left 1
            · (intro w9; go_simp <;> with_reducible rfl)
            simp only [Act.put, List.setIfInBounds_toArray, List.set_cons_succ, List.set_cons_zero]
            refine Cd.wpAnyZ_takeD (i := 32) (d := 72) (v := ?_) rfl rfl (by kernel_rfl) (by kernel_rfl) (by kernel_rfl) (fun _ _ _ h => h) (by rfl) ?_ ?_
            rotate_left 1
            · (intro w9; go_simp <;> with_reducible rfl)
            simp only [Act.put, List.setIfInBounds_toArray, List.set_cons_succ, List.set_cons_zero]
            refine Cd.wpAnyZ_takeD (i := 33) (d := 73) (v := ?_) rfl rfl (by kernel_rfl) (by kernel_rfl) (by kernel_rfl) (fun _ _ _ h => h) (by rfl) ?_ ?_
            rotate_left 1
            · (intro w9; go_simp <;> with_reducible rfl)
            simp only [Act.put, List.setIfInBounds_toArray, List.set_cons_succ, List.set_cons_zero]
            refine Cd.wpAnyZ_loadD (i := 34) (d := 74) (v := ?_) rfl rfl (by kernel_rfl) (by kernel_rfl) (by kernel_rfl) (by kernel_rfl) (fun _ _ _ h => h) S9.out (by rfl) ?_ ?_
            rotate_left 1
            · (intro w9 hS9; obtain ⟨s0, s1⟩ := hS9; go_simp <;> with_reducible rfl)
            simp only [Act.put, List.setIfInBounds_toArray, List.set_cons_succ, List.set_cons_zero]
            refine Cd.wpAnyZ_takeD (i := 35) (d := 75) (v := ?_) rfl rfl (by kernel_rfl) (by kernel_rfl) (by kernel_rfl) (fun _ _ _ h => h) (by rfl) ?_ ?_
            rotate_left 1
            · (intro w9; go_simp <;> with_reducible rfl)
            simp only [Act.put, List.setIfInBounds_toArray, List.set_cons_succ, List.set_cons_zero]
            refine Cd.wpAnyZ_takeD (i := 36) (d := 76) (v := ?_) rfl rfl (by kernel_rfl) (by kernel_rfl) (by kernel_rfl) (fun _ _ _ h => h) (by rfl) ?_ ?_
            rotate_left 1
            · (intro w9; go_simp <;> with_reducible rfl)
            simp only [Act.put, List.setIfInBounds_toArray, List.set_cons_succ, List.set_cons_zero]
            refine Cd.wpAnyZ_takeD (i := 37) (d := 77) (v := ?_) rfl rfl (by kernel_rfl) (by kernel_rfl) (by kernel_rfl) (fun _ _ _ h => h) (by rfl) ?_ ?_
            rotate_left 1
            · (intro w9; go_simp <;> with_reducible rfl)
            simp only [Act.put, List.setIfInBounds_toArray, List.set_cons_succ, List.set_cons_zero]
            refine Cd.wpAnyZ_takeD (i := 38) (d := 78) (v := ?_) rfl rfl (by kernel_rfl) (by kernel_rfl) (by kernel_rfl) (fun _ _ _ h => h) (by rfl) ?_ ?_
            rotate_left 1
            · (intro w9; go_simp <;> with_reducible rfl)
            simp only [Act.put, List.setIfInBounds_toArray, List.set_cons_succ, List.set_cons_zero]
            refine Cd.wpAnyZ_takeD (i := 39) (d := 79) (v := ?_) rfl rfl (by kernel_rfl) (by kernel_rfl) (by kernel_rfl) (fun _ _ _ h => h) (by rfl) ?_ ?_
            rotate_left 1
            · (intro w9; go_simp <;> with_reducible rfl)
            simp only [Act.put, List.setIfInBounds_toArray, List.set_cons_succ, List.set_cons_zero]
            refine Cd.wpAnyZ_takeD (i := 40) (d := 80) (v := ?_) rfl rfl (by kernel_rfl) (by kernel_rfl) (by kernel_rfl) (fun _ _ _ h => h) (by rfl) ?_ ?_
            rotate_left 1
            · (intro w9; go_simp <;> with_reducible rfl)
            simp only [Act.put, List.setIfInBounds_toArray, List.set_cons_succ, List.set_cons_zero]
            refine Cd.wpAnyZ_takeD (i := 41) (d := 81) (v := ?_) rfl rfl (by kernel_rfl) (by kernel_rfl) (by kernel_rfl) (fun _ _ _ h => h) (by rfl) ?_ ?_
            rotate_left 1
            · (intro w9; go_simp <;> with_reducible rfl)
            simp only [Act.put, List.setIfInBounds_toArray, List.set_cons_succ, List.set_cons_zero]
            refine Cd.wpAnyZ_takeD (i := 42) (d := 82) (v := ?_) rfl rfl (by kernel_rfl) (by kernel_rfl) (by kernel_rfl) (fun _ _ _ h => h) (by rfl) ?_ ?_
            rotate_left 1
            · (intro w9; go_simp <;> with_reducible rfl)
            simp only [Act.put, List.setIfInBounds_toArray, List.set_cons_succ, List.set_cons_zero]
            refine Cd.wpAnyZ_takeD (i := 43) (d := 83) (v := ?_) rfl rfl (by kernel_rfl) (by kernel_rfl) (by kernel_rfl) (fun _ _ _ h => h) (by rfl) ?_ ?_
            rotate_left 1
            · (intro w9; go_simp <;> with_reducible rfl)
            simp only [Act.put, List.setIfInBounds_toArray, List.set_cons_succ, List.set_cons_zero]
            refine Cd.wpAnyZ_loadD (i := 44) (d := 84) (v := ?_) rfl rfl (by kernel_rfl) (by kernel_rfl) (by kernel_rfl) (by kernel_rfl) (fun _ _ _ h => h) S9.out (by rfl) ?_ ?_
            rotate_left 1
            · (intro w9 hS9; obtain ⟨s0, s1⟩ := hS9; go_simp <;> with_reducible rfl)
            simp only [Act.put, List.setIfInBounds_toArray, List.set_cons_succ, List.set_cons_zero]
            refine Cd.wpAnyZ_takeD (i := 46) (d := 86) (v := ?_) rfl rfl (by kernel_rfl) (by kernel_rfl) (by kernel_rfl) (fun _ _ _ h => h) (by rfl) ?_ ?_
            rotate_left 1
            · (intro w9; go_simp <;> with_reducible rfl)
            simp only [Act.put, List.setIfInBounds_toArray, List.set_cons_succ, List.set_cons_zero]
            refine Cd.wpAnyZ_takeD (i := 47) (d := 87) (v := ?_) rfl rfl (by kernel_rfl) (by kernel_rfl) (by kernel_rfl) (fun _ _ _ h => h) (by rfl) ?_ ?_
            rotate_left 1
            · (intro w9; go_simp <;> with_reducible rfl)
            simp only [Act.put, List.setIfInBounds_toArray, List.set_cons_succ, List.set_cons_zero]
            refine Cd.wpAnyZ_takeD (i := 48) (d := 88) (v := ?_) rfl rfl (by kernel_rfl) (by kernel_rfl) (by kernel_rfl) (fun _ _ _ h => h) (by rfl) ?_ ?_
            rotate_left 1
            · (intro w9; go_simp <;> with_reducible rfl)
            simp only [Act.put, List.setIfInBounds_toArray, List.set_cons_succ, List.set_cons_zero]
            refine Cd.wpAnyZ_loadD (i := 49) (d := 89) (v := ?_) rfl rfl (by kernel_rfl) (by kernel_rfl) (by kernel_rfl) (by kernel_rfl) (fun _ _ _ h => h) S9.out (by rfl) ?_ ?_
            rotate_left 1
            · (intro w9 hS9; obtain ⟨s0, s1⟩ := hS9; go_simp <;> with_reducible rfl)
            simp only [Act.put, List.setIfInBounds_toArray, List.set_cons_succ, List.set_cons_zero]
            refine Cd.wpAnyZ_takeD (i := 50) (d := 90) (v := ?_) rfl rfl (by kernel_rfl) (by kernel_rfl) (by kernel_rfl) (fun _ _ _ h => h) (by rfl) ?_ ?_
            rotate_left 1
            · (intro w9; go_simp <;> with_reducible rfl)
            simp only [Act.put, List.setIfInBounds_toArray, List.set_cons_succ, List.set_cons_zero]
            refine Cd.wpAnyZ_takeD (i := 51) (d := 91) (v := ?_) rfl rfl (by kernel_rfl) (by kernel_rfl) (by kernel_rfl) (fun _ _ _ h => h) (by rfl) ?_ ?_
            rotate_left 1
            · (intro w9; go_simp <;> with_reducible rfl)
            simp only [Act.put, List.setIfInBounds_toArray, List.set_cons_succ, List.set_cons_zero]
            refine Cd.wpAnyZ_one (i := 45) rfl (by kernel_rfl) (by rfl) ?_
            intro K9 hK9
            go_simp
            go_at_call 6
            (with_reducible refine (HNR.out _).mono ?_)
            rintro e w3 ⟨rfl, rfl⟩
            refine hK9.out _ _ (fun _ _ => S9.out) ?_
            clear hK9 K9
            refine Cd.wpAnyZ_takeD (i := 52) (d := 92) (v := ?_) rfl rfl (by kernel_rfl) (by kernel_rfl) (by kernel_rfl) (fun _ _ _ h => h) (by rfl) ?_ ?_
            rotate_left 1
            · (intro w9; go_simp <;> with_reducible rfl)
            simp only [Act.put, List.setIfInBounds_toArray, List.set_cons_succ, List.set_cons_zero]
            refine Cd.wpAnyZ_takeD (i := 53) (d := 93) (v := ?_) rfl rfl (by kernel_rfl) (by kernel_rfl) (by kernel_rfl) (fun _ _ _ h => h) (by rfl) ?_ ?_
            rotate_left 1
            · (intro w9; go_simp <;> with_reducible rfl)
            simp only [Act.put, List.setIfInBounds_toArray, List.set_cons_succ, List.set_cons_zero]
            refine Cd.wpAnyZ_done (by kernel_rfl) ?_ _
            -- POS>
            go_wp2
            go_roundw
            case rel => exact ⟨k + 1, T, by omega, rfl, hTl, CA.out, C1.out, HKD.out.trans C2.out (fun b h => .inr (by have := HKD.out.size; omega))⟩
            case measure => simp [intOf]; omega
        · have t3 : decide ((k : Int) < 40) = false := by rw [decide_eq_false_iff_not]; omega
          go_wp2_with (go_at_call 8; refine left_nil.mono ?_; rintro e w' ⟨rfl, rfl⟩)
          go_ret
          exact ⟨rfl, HK1.out⟩
      · have t3 : decide ((k : Int) < (ss.length : Int)) = false := by rw [decide_eq_false_iff_not]; omega
        go_wp2_with (go_at_call 8; refine left_nil.mono ?_; rintro e w' ⟨rfl, rfl⟩)
        go_ret
        exact ⟨rfl, HK1.out⟩

end Go.Proofs.Ytdblblnihdifiaa.Di
