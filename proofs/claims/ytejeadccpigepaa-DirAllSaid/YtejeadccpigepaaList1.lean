/- dirfs: List of a directory with one entry. -/
import Derived.Test.YtejeadccpigepaaPut6
namespace Go.Proofs.Ytejeadccpigepaa.Dir
open Go.RowKit Go.Maps Go.Proofs.Ytejeadccpigepaa Go.Proofs.Ytejeadccpigepaa.Ino
set_option maxRecDepth 100000

theorem lempty_any (s : ByteArray) (z : Int) {w : World} (b : Bool) (hb : s.toList.isEmpty = b) : Calls Try.prog 23 #[.agg #[.string s, .int .i64 z]] w fun e w' => e = .returned (.bool b) ∧ Keep (fun _ => False) w w' := by
  go_enter Try.func23, Try.ntmps23
  go_wp2
  go_ret
  exact ⟨by first | rfl | simp [hb], (Keep.refl _ _).alloc _⟩

theorem Try.enList1 : ∀ args w, (callFunc 23 args).run Try.prog w = .ok (.enter 23 args) w := enters_of Try.func23 (by kernel_rfl) rfl

/-- While entries with names are looked at. -/
structure IxR (w0 : World) (n : Nat) (iv : Value) (wr : World) : Prop where
  ex : ∃ k : Nat, k ≤ n ∧ iv = .int .i64 (k : Int) ∧ Keep (fun _ => False) w0 wr

set_option maxHeartbeats 1000000 in
theorem indexF_none {w : World} {v : Value} {E : List Ent} (hr : Row w 51 2 v E.length (ecells E)) (hE : E.length ≤ 3200) (hn : ∀ e ∈ E, e.1 ≠ []) : Calls Try.prog 34 #[v, .func (.func 23) #[] #[]] w fun e w' => e = .returned (.int .i64 (-1)) ∧ Keep (fun _ => False) w w' := by
  obtain ⟨ad, cap, rfl, hc1, hc2⟩ := hr.slice
  unfold maxLen at hc2
  have hen := Try.enList1
  obtain ⟨n, hnn⟩ : ∃ n, n = E.length := ⟨_, rfl⟩
  rw [← hnn] at hr hE hc1 ⊢
  have HR := Lib.hid hr; have HN := Lib.hid hnn; have HNE := Lib.hid hn
  clear hr hnn hn
  go_enter Try.func34, Try.ntmps34
  go_wp2
  go_loopw [5, 8] (fun _ iv wr => IxR w n iv wr) (fun _ iv _ => n - (intOf iv).toNat)
  case atStart => exact ⟨0, by omega, rfl, Keep.refl _ _⟩
  case round =>
    obtain ⟨k, hk, rfl, hK⟩ := hrel.ex
    have HK := Lib.hid hK
    clear hK hrel
    by_cases hlt : k < n
    · have hd : decide (k < n) = true := by rw [decide_eq_true_eq]; omega
      obtain ⟨g0, o0, _, hv0, -, -⟩ := HR.out.full (by omega)
      simp only [Value.slice.injEq] at hv0
      obtain ⟨had, -, -⟩ := hv0
      subst had
      have hkE : k < E.length := by rw [← HN.out]; exact hlt
      have hg0 : g0 < w.heap.size := HR.out.lt (k := g0) rfl
      have c0 := (HK.out.cell hg0 (fun h => h) _).trans ((HR.out.cellAt (k * 2) (by omega)).trans (ecells_get0 E k hkE))
      have c1 := (HK.out.cell hg0 (fun h => h) _).trans ((HR.out.cellAt (k * 2 + 1) (by omega)).trans (ecells_get1 E k hkE))
      rw [← Nat.add_assoc] at c1
      have hne := HNE.out _ (List.getElem_mem hkE)
      obtain ⟨s2, hs2⟩ : ∃ s2 : ByteArray, s2 = ⟨E[k].1.toArray⟩ := ⟨_, rfl⟩
      obtain ⟨z, hz⟩ : ∃ z : Int, z = (E[k].2 : Int) := ⟨_, rfl⟩
      rw [← hs2] at c0
      rw [← hz] at c1
      have HL := Lib.hid (fun w : World => lempty_any s2 z (w := w) false (by rw [ByteArray.toList_eq, hs2]; simpa using hne))
      clear hs2 hz hg0 hne
      go_wp2_with fail
      refine (HL.out _).mono ?_
      rintro e w1 ⟨rfl, k1⟩
      have K1 := Lib.hid (HK.out.trans k1 (fun _ h => h.elim))
      clear k1 c0 c1
      go_wp2_with fail
      go_roundw
      case rel => exact ⟨k + 1, by omega, by go_num, K1.out⟩
      case measure => simp [intOf]; omega
    · have hd : decide (k < n) = false := by rw [decide_eq_false_iff_not]; omega
      go_wp2
      go_ret
      exact ⟨rfl, HK.out⟩

/-- DeleteFunc, where all have names. -/
theorem deleteF_none {w : World} {v : Value} {E : List Ent} (hr : Row w 51 2 v E.length (ecells E)) (hE : E.length ≤ 3200) (hn : ∀ e ∈ E, e.1 ≠ []) : Calls Try.prog 22 #[v, .func (.func 23) #[] #[]] w fun e w' => e = .returned v ∧ Keep (fun _ => False) w w' := by
  have HI := Lib.hid (indexF_none hr hE hn)
  clear hr hE hn
  go_enter Try.func22, Try.ntmps22
  go_wp2_with (go_at_call 34; (with_reducible refine HI.out.mono ?_); rintro e w1 ⟨rfl, k1⟩; have K1 := Lib.hid k1; clear k1)
  go_ret
  exact ⟨rfl, K1.out⟩

/-- The insertion sort of one element. -/
theorem ins_one {w : World} (v f : Value) : Calls Try.prog 45 #[v, .int .i64 0, .int .i64 1, f] w fun e w' => e = .returned (.tuple #[]) ∧ w = w' := by
  go_enter Try.func45, Try.ntmps45
  go_wp2
  go_loopw [8, 9] (fun i _ wr => i = .int .i64 1 ∧ wr = w) (fun _ _ _ => 0)
  case atStart => exact ⟨rfl, rfl⟩
  case round =>
    obtain ⟨rfl, rfl⟩ := hrel
    go_wp2
    go_end0
    exact ⟨rfl, rfl⟩

theorem stable_one {w : World} (v f : Value) : Calls Try.prog 35 #[v, .int .i64 1, f] w fun e w' => e = .returned (.tuple #[]) ∧ w = w' := by
  go_enter Try.func35, Try.ntmps35
  go_wp2
  go_loopw [7, 8] (fun a b wr => a = .int .i64 0 ∧ b = .int .i64 20 ∧ wr = w) (fun _ _ _ => 0)
  case atStart => exact ⟨rfl, rfl, rfl⟩
  case round =>
    obtain ⟨rfl, rfl, rfl⟩ := hrel
    go_wp2_with (go_at_call 45; (with_reducible refine (ins_one _ _).mono ?_); rintro e w' ⟨rfl, rfl⟩)
    go_loopw [6, 7, 8, 9] (fun bs _ _ _ wr' => bs = .int .i64 20 ∧ wr' = wr) (fun _ _ _ _ _ => 0)
    case atStart => exact ⟨rfl, rfl⟩
    case round =>
      obtain ⟨rfl, rfl⟩ := hrel
      go_wp2
      go_end0
      exact ⟨rfl, rfl⟩

theorem sort_one {w : World} (ad : Option Addr) (cap : Nat) (f : Value) : Calls Try.prog 24 #[.slice ad 1 cap, f] w fun e w' => e = .returned (.tuple #[]) ∧ w = w' := by
  go_enter Try.func24, Try.ntmps24
  go_wp2_with (go_at_call 35; (with_reducible refine (stable_one _ _).mono ?_); rintro e w' ⟨rfl, rfl⟩)
  go_end0
  exact ⟨rfl, rfl⟩

/-- What List of one entry answers. -/
structure LsA (e : Ent) (w : World) (x : Ending) (w' : World) : Prop where
  ex : ∃ ad cap, x = .returned (.tuple #[.slice ad 1 cap, .nilIface]) ∧ Row w' 51 2 (.slice ad 1 cap) 1 (ecells [e]) ∧ Keep (fun _ => False) w w'

theorem list_one {w : World} {F : Nat → Prop} {p s : Nat} {S : Sto} {T : List Nat} {e : Ent} (h : Dr w F p s S T [e]) (hne : e.1 ≠ []) : Calls Try.prog 14 #[.pointer (some ⟨p, 0, none⟩)] w (LsA e w) := by
  have HS := Lib.hid (slots_any h)
  have HNE : Hid (∀ x ∈ [e], x.1 ≠ []) := Lib.hid (fun x hx => by simp at hx; rw [hx]; exact hne)
  clear h hne
  go_enter Try.func14, Try.ntmps14
  go_wp2_with (go_at_call 17; (with_reducible refine HS.out.mono ?_); rintro x w1 ⟨v, rfl, hr, k1, hf⟩; have K1 := Lib.hid k1; have hr' : Row w1 51 2 v 1 (ecells [e]) := hr; have HR := Lib.hid hr'; clear hr; obtain ⟨va, vc, rfl, _, _⟩ := hr'.slice; clear k1 hf hr')
  have HD : Hid (Calls Try.prog 22 #[.slice va 1 vc, .func (.func 23) #[] #[]] w1 fun e w' => e = .returned (.slice va 1 vc) ∧ Keep (fun _ => False) w1 w') := Lib.hid (deleteF_none (E := [e]) HR.out (by simp) HNE.out)
  go_wp2_with (first | (go_at_call 22; (with_reducible refine HD.out.mono ?_); rintro x w2 ⟨rfl, k2⟩; have K2 := Lib.hid (K1.out.trans k2 (fun _ h => h.elim)); have HR2 := Lib.hid (HR.out.keep k2 (fun _ _ h => h)); clear k2) | (go_at_call 24; (with_reducible refine (sort_one _ _ _).mono ?_); rintro x w' ⟨rfl, rfl⟩))
  go_ret2
  exact ⟨_, _, rfl, HR2.out, K2.out⟩

end Go.Proofs.Ytejeadccpigepaa.Dir
/- dirfs: the statements' own beginning. -/
namespace Go.Proofs.Ytejeadccpigepaa.Dir
open Go.RowKit Go.Maps Go.Proofs.Ytejeadccpigepaa Go.Proofs.Ytejeadccpigepaa.Ino
set_option maxRecDepth 100000

set_option maxHeartbeats 1000000 in
theorem begun6_any {w : World} : Calls Try.prog 4 #[] w fun e w' => e = .returned (.bool true) ∧ Keep (fun _ => False) w w' := by
  have hmm := @run_makeMap Try.prog
  have hm1 : mayB [97, 45, 98, 46, 99, 95, 57] = true := by decide
  have hm2 : mayB [46, 46] = false := by decide
  have HS := Lib.hid (fresh_sto w 9 9 rfl (by omega))
  have K0 : Hid (Keep (fun _ => False) w ((w.alloc (.map #[] 0)).alloc (.cells #[.map (some w.heap.size), .int .i64 9, .int .i64 0, .bool false] 27))) := Lib.hid (((Keep.refl _ w).alloc _).alloc _)
  have S0 : Hid (((w.alloc (.map #[] 0)).alloc (.cells #[.map (some w.heap.size), .int .i64 9, .int .i64 0, .bool false] 27)).heap.size = w.heap.size + 2) := Lib.hid (by simp)
  go_enter Try.func4, Try.ntmps4
  go_wp2_with fail
  refine (fl_new HS.out rfl).mono ?_
  generalize (w.alloc (.map #[] 0)).alloc (.cells #[.map (some w.heap.size), .int .i64 9, .int .i64 0, .bool false] 27) = w1 at *
  rintro e w2 ⟨rfl, h2, k2⟩
  have H2 := Lib.hid h2; have K2 := Lib.hid (K0.out.trans k2 (fun _ h => h.elim))
  have HAD : Hid (Calls Try.prog 8 #[.pointer (some ⟨w1.heap.size, 0, none⟩), .string ⟨#[97]⟩, .int .i64 3] w2 (AdF w1.heap.size (w.heap.size + 1) 9 (fun x => x = w.heap.size + 1 ∨ x = w.heap.size) ([97], 3) w2)) := Lib.hid (add_first h2 (by omega) ⟨#[97]⟩ (by decide) 3 (by omega) (by omega))
  have HP : Hid (w.heap.size ≤ w1.heap.size) := Lib.hid K0.out.size
  have HFP : Hid (∀ x, (x = w.heap.size + 1 ∨ x = w.heap.size) ∨ x = w1.heap.size → w.heap.size ≤ x) := Lib.hid (fun x hx => by have := K0.out.size; rcases hx with (e | e) | e <;> omega)
  clear h2 k2
  generalize w1.heap.size = p at *
  go_wp2_with (go_at_call 8; (with_reducible refine HAD.out.mono ?_); rintro e w3 h3; have H3 := Lib.hid h3; obtain rfl := h3.ret; clear h3)
  obtain ⟨F3, S3, T3, hd3, _, _⟩ := H3.out.ex
  have HD3 := Lib.hid hd3
  have K3 : Hid (Keep (fun _ => False) w w3) := Lib.hid (K2.out.trans H3.out.keep (fun x hx => .inr (HFP.out x hx)))
  have HFI : Hid (Calls Try.prog 11 #[.pointer (some ⟨p, 0, none⟩), .string ⟨#[97]⟩] w3 fun e w' => e = .returned (.tuple #[.int .i64 3, .nilIface]) ∧ Keep (fun _ => False) w3 w') := Lib.hid (find_some hd3 ⟨#[97]⟩ (by decide) (k := 0) (by decide) (by simp))
  clear hd3
  go_wp2_with (go_at_call 11; (with_reducible refine HFI.out.mono ?_); rintro e w4 ⟨rfl, k4⟩; have K4 := Lib.hid (K3.out.trans k4 (fun _ h => h.elim)); have HLI := Lib.hid (list_one (HD3.out.keep0 k4) (by simp)); clear k4)
  go_wp2_with (first | (go_at_call 14; (with_reducible refine HLI.out.mono ?_); rintro e w5 ⟨va, vc, rfl, hr, k5⟩; obtain ⟨g, o, c, hv, _, _⟩ := hr.full (by omega); obtain ⟨rfl, -, rfl⟩ := (Value.slice.injEq ..).mp hv; have c0 := hr.cellAt 0 (by omega); have c1 := hr.cellAt 1 (by omega); simp [ecells] at c0 c1; have K5 := Lib.hid (K4.out.trans k5 (fun _ h => h.elim)); clear k5 hr) | (go_at_call 15; (first | ((with_reducible refine (may_any _).mono ?_); rintro e w' ⟨rfl, rfl⟩))))
  go_ret
  exact ⟨rfl, K5.out⟩

end Go.Proofs.Ytejeadccpigepaa.Dir
