/- Files on blocks: may. -/
import Derived.Test.YtdkigiemhkoijaaDoorFirst
import Derived.Test.YtdkigiemhkoijaaDoorSrtB
namespace Go.Proofs.YtdkigiemhkoijaaDoor.Ino
open Go.RowKit Go.Maps Go.Proofs.YtdkigiemhkoijaaDoor
set_option maxRecDepth 100000

structure MayA (w w0 : World) (iv : Value) (wr : World) : Prop where
  ex : ∃ k : Nat, k ≤ 203 ∧ iv = .int .i64 (k : Int) ∧ wr = w0

structure MayB (w0 : World) (g : Nat) (t : TypeId) (L : List Nat) (iv : Value) (wr : World) : Prop where
  ex : ∃ k : Nat, 1 ≤ k ∧ k ≤ 203 ∧ iv = .int .i64 (k : Int) ∧ Srt w0 g t L wr

theorem may_any {w : World} {T : List Nat} (hT : T.length = 203) (hi : InjL T) (size : Nat) (hs : size ≤ 102400) (hf : ∀ k, k < 203 → tg T k ≠ 0 → firstP k < (size + 511) / 512)
    (hsort : ∀ (w : World) (g : Nat) (t : TypeId), SR w g t w → Calls Tryd.prog 39 #[tabS g] w fun e w' => e = .returned (.tuple #[]) ∧ SR w g t w') :
    Calls Tryd.prog 21 #[.agg (tabL T).toArray, .int .i64 (size : Int)] w fun e w' => e = .returned (.bool true) ∧ Keep (fun _ => False) w w' := by
  obtain ⟨Z, hzt, hzs, hZ⟩ := zTab
  have HZT := Lib.hid hzt
  have HI := Lib.hid hi; have HF := Lib.hid hf; have HSO := Lib.hid hsort
  clear hzt hi hf hsort
  have d1 : decide (102400 < (size : Int)) = false := by rw [decide_eq_false_iff_not]; omega
  go_enter Tryd.func21, Tryd.ntmps21
  have R0 : (w.alloc (.cells (tabL T).toArray 47)).heap[w.heap.size]? = some (.cells (tabL T).toArray 47 (0, 0)) := heap_alloc_new w _
  have K0 : Hid (Keep (fun _ => False) w (w.alloc (.cells (tabL T).toArray 47))) := Lib.hid ((Keep.refl _ w).alloc _)
  have HR0 := Lib.hid R0
  clear R0
  go_wp2_with (first | (refine wpList_load_tab rfl _ rfl w.heap.size 0 T hT rfl (tab_range HR0.out) ?_))
  generalize w.alloc (.cells (tabL T).toArray 47) = w1 at *
  go_loopw [11] (fun iv wr => MayA w w1 iv wr) (fun iv _ => 203 - (intOf iv).toNat)
  case atStart => exact ⟨0, by omega, rfl, rfl⟩
  case round =>
    obtain ⟨k, hk, rfl, rfl⟩ := hrel.ex
    clear hrel
    by_cases hlt : k < 203
    · have hd : decide ((k : Int) < 203) = true := by rw [decide_eq_true_eq]; omega
      have hix : ∀ {ops : Array Oper} {rest : List Oper} {o : Oper} {a : Act} {w : World} {Q : Exit → Act → World → Prop}, o.guard = none → ∀ (x y : Operand), o.op = .index 47 x y → a.eval x = .agg (tabL T).toArray → a.eval y = .int .i64 (k : Int) → wpList Tryd.prog ops Q rest (a.put o.dst (.int .u32 ((tg T k : Nat) : Int))) w → wpList Tryd.prog ops Q (o :: rest) a w := fun hg x y ho hx hy h => wpList_index_tab hg x y ho T k hlt hT hx hy h
      by_cases h0 : tg T k = 0
      · rw [h0] at hix
        clear h0
        go_wp2_with (first | (refine hix rfl _ _ rfl rfl rfl ?_))
        go_roundw
        case rel => exact ⟨k + 1, by omega, by go_num, rfl⟩
        case measure => first | (simp [intOf]; done) | (simp [intOf]; omega)
      · have hne : ((tg T k : Nat) : Int) ≠ 0 := by omega
        have hfp := HF.out k hlt h0
        obtain ⟨fp, hfp1⟩ : ∃ fp, fp = firstP k := ⟨_, rfl⟩
        obtain ⟨pz, hpz⟩ : ∃ pz, pz = (size + 511) / 512 := ⟨_, rfl⟩
        have HFI : Hid (∀ w : World, Calls Tryd.prog 38 #[.int .i64 (k : Int)] w fun e w' => e = .returned (.int .i64 (fp : Int)) ∧ w = w') := Lib.hid (fun w => hfp1 ▸ first_any k hlt)
        have HPA : Hid (∀ w : World, Calls Tryd.prog 16 #[.int .i64 (size : Int)] w fun e w' => e = .returned (.int .i64 (pz : Int)) ∧ w = w') := Lib.hid (fun w => hpz ▸ parts_any size (by omega))
        have hd2 : decide ((pz : Int) ≤ (fp : Int)) = false := by rw [decide_eq_false_iff_not]; omega
        have hd3 : ¬ pz ≤ fp := by omega
        clear hfp hfp1 hpz h0
        generalize tg T k = v9 at *
        go_wp2_with (first | (refine hix rfl _ _ rfl rfl rfl ?_) | (go_at_call 38; refine (HFI.out _).mono ?_; rintro e w' ⟨rfl, rfl⟩) | (go_at_call 16; refine (HPA.out _).mono ?_; rintro e w' ⟨rfl, rfl⟩))
        all_goals try (exfalso; omega)
        go_roundw
        case rel => exact ⟨k + 1, by omega, by go_num, rfl⟩
        case measure => first | (simp [intOf]; done) | (simp [intOf]; omega)
    · have hd : decide ((k : Int) < 203) = false := by rw [decide_eq_false_iff_not]; omega
      go_wp2_with fail
      have hw : w.heap.size ≠ w.heap.size + 1 := by omega
      refine (HSO.out wr w.heap.size 47 ⟨T, Srt.refl hT HI.out HR0.out⟩).mono ?_
      rintro e w2 ⟨rfl, L, hL⟩
      have HL := Lib.hid hL
      clear hL hlt hd
      go_wp2_with fail
      obtain ⟨wz, hwz⟩ : ∃ wz, wz = wr := ⟨wr, rfl⟩
      subst wr
      obtain ⟨kz, hkz⟩ : ∃ kz, kz = k := ⟨k, rfl⟩
      subst k
      go_loopw [7] (fun iv wr => MayB wz w.heap.size 47 L iv wr) (fun iv _ => 203 - (intOf iv).toNat)
      case atStart => exact ⟨1, by omega, by omega, rfl, HL.out⟩
      case round =>
        obtain ⟨k, hk1, hk2, rfl, hS⟩ := hrel.ex
        clear hrel
        by_cases hlt : k < 203
        · have hd : decide ((k : Int) < 203) = true := by rw [decide_eq_true_eq]; omega
          obtain ⟨j, hj⟩ : ∃ j, j = k - 1 := ⟨_, rfl⟩
          have e1 : (k : Int) - 1 = (j : Int) := by omega
          have jl : j < 203 := by omega
          have c1 := hS.cell hlt
          have c2 := hS.cell jl
          have HN : Hid (∀ n, Srt wz w.heap.size 47 L (wr.drewN n)) := Lib.hid (fun n => hS.drewN n)
          by_cases h0 : tg L k = 0
          · rw [h0] at c1
            clear hS h0 hj
            generalize w.heap.size = g at *
            go_wp2
            go_quiet (fail)
            have HN2 := Lib.hid (HN.out nq)
            clear c1 c2 HN
            generalize wr.drewN nq = wq at *
            go_wp2
            go_roundw
            case rel => exact ⟨k + 1, by omega, by omega, by go_num, HN2.out⟩
            case measure => first | (simp [intOf]; done) | (simp [intOf]; omega)
          · have hne : tg L k ≠ tg L j := fun e => by
              have := hS.inj k j h0 e
              omega
            have hz : ((tg L k : Nat) : Int) ≠ 0 := by omega
            have hz2 : ((tg L k : Nat) : Int) ≠ ((tg L j : Nat) : Int) := by omega
            clear hS hj hne h0
            generalize tg L k = x1 at *
            generalize tg L j = x2 at *
            have hb1 : ((x1 : Int) != 0) = true := by simpa using hz
            have hb2 : ((x1 : Int) == (x2 : Int)) = false := by rw [beq_eq_false_iff_ne]; exact hz2
            generalize w.heap.size = g at *
            go_wp2
            go_quiet (fail)
            have HN2 := Lib.hid (HN.out nq)
            clear c1 c2 HN
            generalize wr.drewN nq = wq at *
            go_wp2
            go_roundw
            case rel => exact ⟨k + 1, by omega, by omega, by go_num, HN2.out⟩
            case measure => first | (simp [intOf]; done) | (simp [intOf]; omega)
        · have hd : decide ((k : Int) < 203) = false := by rw [decide_eq_false_iff_not]; omega
          have HS := Lib.hid hS
          clear hS
          go_wp2
          go_ret
          exact ⟨rfl, K0.out.trans HS.out.keep (fun x hx => .inr (by omega))⟩

end Go.Proofs.YtdkigiemhkoijaaDoor.Ino
