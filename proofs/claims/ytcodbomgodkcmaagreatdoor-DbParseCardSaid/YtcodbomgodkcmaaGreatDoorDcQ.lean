/- World files: what the tied variables give; a start that meets the condition. -/
import Derived.Test.YtcodbomgodkcmaaGreatDoorDcN
import Derived.Test.YtcodbomgodkcmaaGreatDoorTie
import Derived.Test.YtcodbomgodkcmaaGreatDoorCards
import Derived.SevenTiedAt
import Derived.ProofKit
import Derived.LaidMore
import Derived.LaidHandle
import Derived.OpenShut
import Derived.Stop.Joined
import Derived.Stop.LaidErr
import Derived.Lib.LaidTab
import Derived.Lay
import Derived.LaidOnce
namespace Go.Proofs.YtcodbomgodkcmaaGreatDoor
set_option maxRecDepth 100000
open Go.ChangeShapes Go.WideShapes Go.ChangeAt Go.RowKit

abbrev laidSix : List (String × DataW Unit) := [("math/bits.deBruijn32tab", Rows.laid_math_bits_deBruijn32tab), ("math/bits.deBruijn64tab", Rows.laid_math_bits_deBruijn64tab), ("internal/strconv.uint64pow10", Rows.laid_internal_strconv_uint64pow10), ("errors.errorType", Rows.laid_errors_errorType), ("strconv.ErrRange", Rows.laid_strconv_ErrRange), ("strconv.ErrSyntax", Rows.laid_strconv_ErrSyntax)]
/-- Those of them that are no handle. -/
abbrev laidSixP : List (String × DataW Unit) := [("math/bits.deBruijn32tab", Rows.laid_math_bits_deBruijn32tab), ("math/bits.deBruijn64tab", Rows.laid_math_bits_deBruijn64tab), ("internal/strconv.uint64pow10", Rows.laid_internal_strconv_uint64pow10), ("strconv.ErrRange", Rows.laid_strconv_ErrRange), ("strconv.ErrSyntax", Rows.laid_strconv_ErrSyntax)]

theorem Tryz.tPow : (Tryz.prog.globals[4]?).map (·.type) = some 329 := by kernel_rfl
theorem Tryz.cellsU64 : Tryz.prog.cellsOf 233 = 1 := by kernel_rfl
theorem Tryz.cellsPow : Tryz.prog.cellsOf 329 = 20 := by kernel_rfl
theorem Tryz.gRng : Tryz.prog.globalNamed "strconv.ErrRange" = some 3 := by kernel_rfl
theorem Tryz.tRng : (Tryz.prog.globals[3]?).map (·.type) = some 26 := by kernel_rfl
theorem Tryz.gSyn : Tryz.prog.globalNamed "strconv.ErrSyntax" = some 2 := by kernel_rfl
theorem Tryz.tSyn : (Tryz.prog.globals[2]?).map (·.type) = some 26 := by kernel_rfl
theorem star_str : ("*errors.errorString" : String) = "*" ++ "errors.errorString" := by decide
theorem Tryz.rowErr (u : TypeId) (h : Tryz.prog.typeName? 3 u = some "*errors.errorString") : u = 325 :=
  typeName_ptr_named (nm := "errors.errorString") (by rw [← star_str]; kernel_rfl) (by kernel_rfl) (by decide) u (by rw [← star_str]; exact h)
theorem Tryz.cellsErr : Tryz.prog.cellsOf 327 = 1 := by kernel_rfl
theorem Tryz.cellsStr : Tryz.prog.cellsOf 9 = 1 := by kernel_rfl

theorem six_parts {W : World} (h : laidMetH Tryz.prog laidSix W) : laidMet Tryz.prog laidSixP W ∧ handlesMet Tryz.prog [("errors.errorType", Rows.laid_errors_errorType)] W := h

/-- What the condition says. -/
theorem t12_of_six {W : World} (h : laidMetH Tryz.prog laidSix W) : Lin.T12 W := by
  have h3 := (six_parts h).1.tail.tail
  have hT := Lib.tabIs_of_head (k := .u64) (zs := Lib.pow10Tab) (rest := laidSixP.drop 3) Lin.Tryz.gPow Tryz.tPow Tryz.underlying329 Tryz.underlying233 Tryz.cellsU64 Tryz.cellsPow h3
  obtain ⟨a1, s1, e1, _, _, _⟩ := laid_sentinel h3.tail Tryz.gRng Tryz.tRng Tryz.underlying26 Tryz.rowErr Tryz.underlying325 Tryz.underlying327 rfl rfl Tryz.underlying9 Tryz.cellsErr Tryz.cellsStr
  obtain ⟨a2, s2, e2, _, _, _⟩ := laid_sentinel h3.tail.tail Tryz.gSyn Tryz.tSyn Tryz.underlying26 Tryz.rowErr Tryz.underlying325 Tryz.underlying327 rfl rfl Tryz.underlying9 Tryz.cellsErr Tryz.cellsStr
  exact ⟨hT, ⟨_, _, by simpa using World.var?_cell Tryz.gSyn e2 0⟩, ⟨_, _, by simpa using World.var?_cell Tryz.gRng e1 0⟩⟩

theorem Tryz.gEt : Tryz.prog.globalNamed "errors.errorType" = some 0 := by kernel_rfl
theorem Tryz.cutRt : (Tryz.prog.cutTypes.find? (·.1 == "internal/reflectlite.rtype")).map (·.2) = some 146 := by kernel_rfl
theorem Tryz.oneErrRow : ((List.range Tryz.prog.types.size).filter fun t => Tryz.prog.rowNamed t [101, 114, 114, 111, 114]) = [26] := by kernel_rfl
/-- The variable that holds the type error. -/
theorem handle_of_six {W : World} (h : laidMetH Tryz.prog laidSix W) : W.cell? ⟨0, 0, none⟩ = some (.iface 146 (.agg #[.pointer (some ⟨Tryz.prog.globals.size, 26, none⟩)])) := by
  obtain ⟨name, u, ty, q1, q2, q3, q4, q5⟩ := (six_parts h).2 _ (List.mem_singleton.2 rfl)
  obtain rfl : name = [101, 114, 114, 111, 114] := (Option.some.inj q1).symm
  obtain rfl := Option.some.inj (Tryz.cutRt.symm.trans q2)
  have hm : ty ∈ (List.range Tryz.prog.types.size).filter fun t => Tryz.prog.rowNamed t [101, 114, 114, 111, 114] := List.mem_filter.2 ⟨List.mem_range.2 q3, q4⟩
  rw [Tryz.oneErrRow] at hm
  obtain rfl := List.mem_singleton.1 hm
  rw [show typeHandle Tryz.prog 26 = .pointer (some ⟨Tryz.prog.globals.size, 26, none⟩) by kernel_rfl] at q5
  simpa using World.var?_cell Tryz.gEt q5 0

theorem door_six (os : Os) (args : Array Value) : laidMetH Tryz.prog laidSix ((World.doorLaid Tryz.prog 69 os).forCall (fun _ _ => 0) ⟨#[], args, []⟩).memory :=
  laidMetH_of_parts3 (fuel := 8) (laidMet_of_run' 8 (by kernel_rfl) (by kernel_rfl)) (by kernel_rfl) (by kernel_rfl)
theorem Tryz.own13 : ownKnob Tryz.prog.godebug = none := by kernel_rfl
theorem Tryz.laidOut13 : laidOutB Tryz.prog = true := by kernel_rfl
end Go.Proofs.YtcodbomgodkcmaaGreatDoor
