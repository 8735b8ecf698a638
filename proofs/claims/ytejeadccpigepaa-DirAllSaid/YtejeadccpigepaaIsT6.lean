/- Is, asked of the error that wraps a full store's: it is ErrFull. -/
import Derived.Test.YtejeadccpigepaaIsF
import Derived.Test.YtejeadccpigepaaInoD
import Derived.LaidEql
import Derived.Stop.Asserts
import Derived.RowKitTokens
namespace Go.Proofs.Ytejeadccpigepaa.Dir
open Go.RowKit Go.Maps Go.Proofs.Ytejeadccpigepaa Go.Proofs.Ytejeadccpigepaa.Ino Go.Extern.Stop Go.Stop Go.Extern
set_option maxRecDepth 100000

theorem Try.noIsT (v : Value) (xT : TypeId) (w : World) : (Instr.typeAssert (.iface 127 v) xT 101 true).run Try.prog w = .ok (.tuple #[.nilIface, .bool false]) w := run_typeAssert_lacksB Try.underlying101 (by kernel_rfl) (by kernel_rfl) v xT w
theorem Try.hasUnwrapT (v : Value) (xT : TypeId) (w : World) : (Instr.typeAssert (.iface 127 v) xT 104 true).run Try.prog w = .ok (.tuple #[.iface 127 v, .bool true]) w := run_typeAssert_hasB Try.underlying104 (by kernel_rfl) v xT w
theorem Try.methodUnwrapT (n : Nat) (v : Value) (w : World) : (Go.method (n + 1) 127 v "Unwrap").run Try.prog w = .ok (115, v) w := by kernel_rfl

theorem unwrapT_any {w : World} {lo r : Nat} (h : ErrAt w lo r) : Calls Try.prog 115 #[.pointer (some ⟨r, 0, none⟩)] w fun e w' => e = .returned (apiErr 2) ∧ w = w' := by
  have c1 : w.cell? ⟨r, 1, none⟩ = some (apiErr 2) := by rw [cell_of_row _ _ _ _ _ _ h.2]; rfl
  go_enter Try.func115, Try.ntmps115
  go_wp2
  go_ret
  exact ⟨rfl, rfl⟩

theorem isIn_take {w : World} {lo r : Nat} (h : ErrAt w lo r) : Calls Try.prog 33 #[.iface 127 (.pointer (some ⟨r, 0, none⟩)), apiErr 2, .bool true] w fun e w' => e = .returned (.bool true) ∧ w = w' := by
  obtain ⟨i, hi, hcmp⟩ := Option.map_eq_some_iff.1 Try.isComp
  have HU := Lib.hid (unwrapT_any h)
  have nI := Try.noIsT
  have uI := Try.hasUnwrapT
  have mU := Try.methodUnwrapT
  have heq := run_eql_iface_int (P := Try.prog) w 2 2 Try.underlying37 Try.underlying40 hi hcmp
  have hty := run_eql_iface_types (P := Try.prog) 127 40 (.pointer (some ⟨r, 0, none⟩)) (.int .i64 2) Try.underlying37 (by decide) w
  clear h
  simp only [apiErr] at HU ⊢
  go_enter Try.func33, Try.ntmps33
  go_wp2
  refine wp_loop_rounds 2 ?_
  rw [rounds_succ]
  go_wp2_with (go_at_call 115; (with_reducible refine HU.out.mono ?_); rintro e w' ⟨rfl, rfl⟩)
  rw [rounds_succ]
  go_wp2
  go_ret
  exact ⟨rfl, rfl⟩

theorem errIs_take {w : World} {lo r : Nat} (h : ErrAt w lo r) : Calls Try.prog 20 #[.iface 127 (.pointer (some ⟨r, 0, none⟩)), apiErr 2] w fun e w' => e = .returned (.bool true) ∧ w = w' := by
  have h8 := @run_callFunc_extern Try.prog 32 _ Extern.ReflectliteType.typeOf Try.func32 (by kernel_rfl) (by kernel_rfl) (by kernel_rfl) (by kernel_rfl)
  have h32 := @run_callFunc_extern Try.prog 105 _ cmpBody Try.func105 (by kernel_rfl) (by kernel_rfl) (by kernel_rfl) (by kernel_rfl)
  have tT := Try.isTypeOf
  have cT := Try.isComparable
  have mR := Try.isMethodComparable
  obtain ⟨G, hG⟩ : ∃ G, G = Try.prog.globals.size := ⟨_, rfl⟩
  simp only [← hG] at cT tT
  clear hG
  have HI := Lib.hid (isIn_take h)
  clear h
  simp only [apiErr] at HI ⊢
  go_enter Try.func20, Try.ntmps20
  go_wp2_with (go_at_call 33; (with_reducible refine HI.out.mono ?_); rintro e w' ⟨rfl, rfl⟩)
  go_ret
  exact ⟨rfl, rfl⟩

theorem isF_take {w : World} {lo r : Nat} (h : ErrAt w lo r) : Calls Try.prog 9 #[.iface 127 (.pointer (some ⟨r, 0, none⟩)), .int .i64 2] w fun e w' => e = .returned (.bool true) ∧ w = w' := by
  have HI := Lib.hid (errIs_take h)
  clear h
  simp only [apiErr] at HI
  go_enter Try.func9, Try.ntmps9
  go_wp2_with (go_at_call 20; (with_reducible refine HI.out.mono ?_); rintro e w' ⟨rfl, rfl⟩)
  go_ret
  exact ⟨rfl, rfl⟩

end Go.Proofs.Ytejeadccpigepaa.Dir
