/- errors.Is of a group that is too great: it wraps ErrFull. -/
import Derived.Test.YtlhghhidmcadjaaDoorErr
import Derived.Test.YtlhghhidmcadjaaDoorPut
namespace Go.Proofs.YtlhghhidmcadjaaDoor
open Go.RowKit Go.Extern.Stop Go.Stop Go.Extern
set_option maxRecDepth 100000

abbrev grpErr (r : Nat) : Value := .iface 77 (.pointer (some ⟨r, 0, none⟩))

theorem Tryd.ta1 (r : Nat) (w : World) : (Instr.typeAssert (grpErr r) 29 115 true).run Tryd.prog w = .ok (.tuple #[.nilIface, .bool false]) w :=
  run_typeAssert_lacksB Tryd.underlying115 (by kernel_rfl) (by kernel_rfl) _ _ w
theorem Tryd.ta2 (r : Nat) (w : World) : (Instr.typeAssert (grpErr r) 29 118 true).run Tryd.prog w = .ok (.tuple #[grpErr r, .bool true]) w :=
  run_typeAssert_hasB Tryd.underlying118 (by kernel_rfl) _ _ w
theorem Tryd.isMethodUnwrap (n : Nat) (r : Nat) (w : World) : (Go.method (n + 1) 77 (.pointer (some ⟨r, 0, none⟩)) "Unwrap").run Tryd.prog w = .ok (99, .pointer (some ⟨r, 0, none⟩)) w := by kernel_rfl

theorem unwrap_any {w : World} {r : Nat} {e : Value} {n : Value} (h : w.heap[r]? = some (.cells #[n, e] 79 (0, 0))) :
    Calls Tryd.prog 99 #[.pointer (some ⟨r, 0, none⟩)] w fun x w' => x = .returned e ∧ w = w' := by
  have c1 : w.cell? ⟨r, 1, none⟩ = some e := cell_of_row _ _ _ _ _ _ h
  clear h
  go_enter Tryd.func99, Tryd.ntmps99
  go_wp2
  go_ret
  exact ⟨rfl, rfl⟩

theorem errIs_group {w : World} {r : Nat} {n : Value} (a : Int) (h : w.heap[r]? = some (.cells #[n, apiErr a] 79 (0, 0))) :
    Calls Tryd.prog 41 #[grpErr r, apiErr a] w fun e w' => e = .returned (.bool true) ∧ w = w' := by
  have HH := Lib.hid h
  clear h
  obtain ⟨i, hi, hcmp⟩ := Option.map_eq_some_iff.1 Tryd.isComp
  have h8 := @run_callFunc_extern Tryd.prog 49 _ Extern.ReflectliteType.typeOf Tryd.func49 (by kernel_rfl) (by kernel_rfl) (by kernel_rfl) (by kernel_rfl)
  have h32 := @run_callFunc_extern Tryd.prog 103 _ cmpBody Tryd.func103 (by kernel_rfl) (by kernel_rfl) (by kernel_rfl) (by kernel_rfl)
  have tT := Tryd.isTypeOf
  have cT := Tryd.isComparable
  have mR := Tryd.isMethodComparable
  obtain ⟨G, hG⟩ : ∃ G, G = Tryd.prog.globals.size := ⟨_, rfl⟩
  simp only [← hG] at cT tT
  clear hG
  have heq := fun w => run_eql_iface_int (P := Tryd.prog) w a a Tryd.underlying29 Tryd.underlying55 hi hcmp
  have hne := fun v1 v2 => run_eql_iface_types (P := Tryd.prog) 77 55 v1 v2 Tryd.underlying29 (by decide)
  have mU := fun n => Tryd.isMethodUnwrap n r
  have t1 := Tryd.ta1 r
  have t2 := Tryd.ta2 r
  simp only [apiErr, grpErr] at *
  go_enter Tryd.func41, Tryd.ntmps41
  go_wp2
  refine wp_loop_rounds 2 ?_
  rw [rounds_succ]
  go_wp2_with (go_at_call 99; refine (unwrap_any HH.out).mono ?_; rintro e w' ⟨rfl, rfl⟩)
  rw [rounds_succ]
  go_wp2
  go_ret
  exact ⟨rfl, rfl⟩

/-- Is(err, e) of a group that is too great. -/
theorem is_group {w : World} {r : Nat} {n : Value} (a : Int) (ha : ((a : Int) == 0) = false) (h : w.heap[r]? = some (.cells #[n, apiErr a] 79 (0, 0))) :
    Calls Tryd.prog 27 #[grpErr r, .int .i64 a] w fun e w' => e = .returned (.bool true) ∧ w = w' := by
  have HH := Lib.hid h
  clear h
  simp only [grpErr]
  go_enter Tryd.func27, Tryd.ntmps27
  go_wp2_with (go_at_call 41; refine (errIs_group a HH.out).mono ?_; rintro e w' ⟨rfl, rfl⟩)
  go_ret
  exact ⟨rfl, rfl⟩

end Go.Proofs.YtlhghhidmcadjaaDoor
