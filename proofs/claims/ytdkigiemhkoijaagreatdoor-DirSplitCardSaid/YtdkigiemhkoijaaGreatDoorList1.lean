/- dirfs: List of a directory with one entry. -/
import Derived.Test.YtdkigiemhkoijaaGreatDoorPut6
namespace Go.Proofs.YtdkigiemhkoijaaGreatDoor.Dir
open Go.RowKit Go.Maps Go.Proofs.YtdkigiemhkoijaaGreatDoor Go.Proofs.YtdkigiemhkoijaaGreatDoor.Ino
set_option maxRecDepth 100000

theorem lempty_any (s : ByteArray) (z : Int) {w : World} (b : Bool) (hb : s.toList.isEmpty = b) : Calls Tryz.prog 25 #[.agg #[.string s, .int .i64 z]] w fun e w' => e = .returned (.bool b) ∧ Keep (fun _ => False) w w' := by
  go_enter Tryz.func25, Tryz.ntmps25
  go_wp2
  go_ret
  exact ⟨by first | rfl | simp [hb], (Keep.refl _ _).alloc _⟩

theorem Tryz.enList1 : ∀ args w, (callFunc 25 args).run Tryz.prog w = .ok (.enter 25 args) w := enters_of Tryz.func25 (by kernel_rfl) rfl

/-- While entries with names are looked at. -/
structure IxR (w0 : World) (n : Nat) (iv : Value) (wr : World) : Prop where
  ex : ∃ k : Nat, k ≤ n ∧ iv = .int .i64 (k : Int) ∧ Keep (fun _ => False) w0 wr

set_option maxHeartbeats 1000000 in
theorem indexF_none {w : World} {v : Value} {E : List Ent} (hr : Row w 47 2 v E.length (ecells E)) (hE : E.length ≤ 3200) (hn : ∀ e ∈ E, e.1 ≠ []) : Calls Tryz.prog 38 #[v, .func (.func 25) #[] #[]] w fun e w' => e = .returned (.int .i64 (-1)) ∧ Keep (fun _ => False) w w' := by
  obtain ⟨ad, cap, rfl, hc1, hc2⟩ := hr.slice
  unfold maxLen at hc2
  have hen := Tryz.enList1
  obtain ⟨n, hnn⟩ : ∃ n, n = E.length := ⟨_, rfl⟩
  rw [← hnn] at hr hE hc1 ⊢
  have HR := Lib.hid hr; have HN := Lib.hid hnn; have HNE := Lib.hid hn
  clear hr hnn hn
  go_enter Tryz.func38, Tryz.ntmps38
  go_wp2
  go_loopw [5, 8] (fun _ iv wr => IxR w n iv wr) (fun _ iv _ => n - (intOf iv).toNat)
  case atStart => exact ⟨0, by omega, rfl, Keep.refl _ _⟩
  case round =>
    obtain ⟨k, hk, rfl, hK⟩ := hrel.ex
    have HK := Lib.hid hK
    clear hK hrel
    by_cases hlt : k < n
    · have hd : decide (k < n) = true := by rw [decide_eq_true_eq]; omega
      obtain ⟨g0, o0, _, hv0, -, -⟩ := HR.out.full (by omega)
      simp only [Value.slice.injEq] at hv0
      obtain ⟨had, -, -⟩ := hv0
      subst had
      have hkE : k < E.length := by rw [← HN.out]; exact hlt
      have hg0 : g0 < w.heap.size := HR.out.lt (k := g0) rfl
      have c0 := (HK.out.cell hg0 (fun h => h) _).trans ((HR.out.cellAt (k * 2) (by omega)).trans (ecells_get0 E k hkE))
      have c1 := (HK.out.cell hg0 (fun h => h) _).trans ((HR.out.cellAt (k * 2 + 1) (by omega)).trans (ecells_get1 E k hkE))
      rw [← Nat.add_assoc] at c1
      have hne := HNE.out _ (List.getElem_mem hkE)
      obtain ⟨s2, hs2⟩ : ∃ s2 : ByteArray, s2 = ⟨E[k].1.toArray⟩ := ⟨_, rfl⟩
      obtain ⟨z, hz⟩ : ∃ z : Int, z = (E[k].2 : Int) := ⟨_, rfl⟩
      rw [← hs2] at c0
      rw [← hz] at c1
      have HL := Lib.hid (fun w : World => lempty_any s2 z (w := w) false (by rw [ByteArray.toList_eq, hs2]; simpa using hne))
      clear hs2 hz hg0 hne
      go_wp2_with fail
      refine (HL.out _).mono ?_
      rintro e w1 ⟨rfl, k1⟩
      have K1 := Lib.hid (HK.out.trans k1 (fun _ h => h.elim))
      clear k1 c0 c1
      go_wp2_with fail
      go_roundw
      case rel => exact ⟨k + 1, by omega, by go_num, K1.out⟩
      case measure => simp [intOf]; omega
    · have hd : decide (k < n) = false := by rw [decide_eq_false_iff_not]; omega
      go_wp2
      go_ret
      exact ⟨rfl, HK.out⟩

/-- DeleteFunc, where all have names. -/
theorem deleteF_none {w : World} {v : Value} {E : List Ent} (hr : Row w 47 2 v E.length (ecells E)) (hE : E.length ≤ 3200) (hn : ∀ e ∈ E, e.1 ≠ []) : Calls Tryz.prog 24 #[v, .func (.func 25) #[] #[]] w fun e w' => e = .returned v ∧ Keep (fun _ => False) w w' := by
  have HI := Lib.hid (indexF_none hr hE hn)
  clear hr hE hn
  go_enter Tryz.func24, Tryz.ntmps24
  go_wp2_with (go_at_call 38; (with_reducible refine HI.out.mono ?_); rintro e w1 ⟨rfl, k1⟩; have K1 := Lib.hid k1; clear k1)
  go_ret
  exact ⟨rfl, K1.out⟩

/-- The insertion sort of one element. -/
theorem ins_one {w : World} (v f : Value) : Calls Tryz.prog 53 #[v, .int .i64 0, .int .i64 1, f] w fun e w' => e = .returned (.tuple #[]) ∧ w = w' := by
  go_enter Tryz.func53, Tryz.ntmps53
  go_wp2
  go_loopw [8, 9] (fun i _ wr => i = .int .i64 1 ∧ wr = w) (fun _ _ _ => 0)
  case atStart => exact ⟨rfl, rfl⟩
  case round =>
    obtain ⟨rfl, rfl⟩ := hrel
    go_wp2
    go_end0
    exact ⟨rfl, rfl⟩

theorem stable_one {w : World} (v f : Value) : Calls Tryz.prog 39 #[v, .int .i64 1, f] w fun e w' => e = .returned (.tuple #[]) ∧ w = w' := by
  go_enter Tryz.func39, Tryz.ntmps39
  go_wp2
  go_loopw [7, 8] (fun a b wr => a = .int .i64 0 ∧ b = .int .i64 20 ∧ wr = w) (fun _ _ _ => 0)
  case atStart => exact ⟨rfl, rfl, rfl⟩
  case round =>
    obtain ⟨rfl, rfl, rfl⟩ := hrel
    go_wp2_with (go_at_call 53; (with_reducible refine (ins_one _ _).mono ?_); rintro e w' ⟨rfl, rfl⟩)
    go_loopw [6, 7, 8, 9] (fun bs _ _ _ wr' => bs = .int .i64 20 ∧ wr' = wr) (fun _ _ _ _ _ => 0)
    case atStart => exact ⟨rfl, rfl⟩
    case round =>
      obtain ⟨rfl, rfl⟩ := hrel
      go_wp2
      go_end0
      exact ⟨rfl, rfl⟩

theorem sort_one {w : World} (ad : Option Addr) (cap : Nat) (f : Value) : Calls Tryz.prog 26 #[.slice ad 1 cap, f] w fun e w' => e = .returned (.tuple #[]) ∧ w = w' := by
  go_enter Tryz.func26, Tryz.ntmps26
  go_wp2_with (go_at_call 39; (with_reducible refine (stable_one _ _).mono ?_); rintro e w' ⟨rfl, rfl⟩)
  go_end0
  exact ⟨rfl, rfl⟩

/-- What List of one entry answers. -/
structure LsA (e : Ent) (w : World) (x : Ending) (w' : World) : Prop where
  ex : ∃ ad cap, x = .returned (.tuple #[.slice ad 1 cap, .nilIface]) ∧ Row w' 47 2 (.slice ad 1 cap) 1 (ecells [e]) ∧ Keep (fun _ => False) w w'

theorem list_one {w : World} {F : Nat → Prop} {p s : Nat} {S : Sto} {T : List Nat} {e : Ent} (h : Dr w F p s S T [e]) (hne : e.1 ≠ []) : Calls Tryz.prog 14 #[.pointer (some ⟨p, 0, none⟩)] w (LsA e w) := by
  have HS := Lib.hid (slots_any h)
  have HNE : Hid (∀ x ∈ [e], x.1 ≠ []) := Lib.hid (fun x hx => by simp at hx; rw [hx]; exact hne)
  clear h hne
  go_enter Tryz.func14, Tryz.ntmps14
  go_wp2_with (go_at_call 20; (with_reducible refine HS.out.mono ?_); rintro x w1 ⟨v, rfl, hr, k1, hf⟩; have K1 := Lib.hid k1; have hr' : Row w1 47 2 v 1 (ecells [e]) := hr; have HR := Lib.hid hr'; clear hr; obtain ⟨va, vc, rfl, _, _⟩ := hr'.slice; clear k1 hf hr')
  have HD : Hid (Calls Tryz.prog 24 #[.slice va 1 vc, .func (.func 25) #[] #[]] w1 fun e w' => e = .returned (.slice va 1 vc) ∧ Keep (fun _ => False) w1 w') := Lib.hid (deleteF_none (E := [e]) HR.out (by simp) HNE.out)
  go_wp2_with (first | (go_at_call 24; (with_reducible refine HD.out.mono ?_); rintro x w2 ⟨rfl, k2⟩; have K2 := Lib.hid (K1.out.trans k2 (fun _ h => h.elim)); have HR2 := Lib.hid (HR.out.keep k2 (fun _ _ h => h)); clear k2) | (go_at_call 26; (with_reducible refine (sort_one _ _ _).mono ?_); rintro x w' ⟨rfl, rfl⟩))
  go_ret2
  exact ⟨_, _, rfl, HR2.out, K2.out⟩

end Go.Proofs.YtdkigiemhkoijaaGreatDoor.Dir
