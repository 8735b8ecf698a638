/- Texts: what the tied variables give; the program's functions keep the promise; a start that meets the condition. -/
import Derived.Test.YtincpkncakppbaaDoorLinO
import Derived.Test.YtincpkncakppbaaDoorTie
import Derived.Test.YtincpkncakppbaaDoorCards
import Derived.SevenTiedAt
import Derived.ProofKit
import Derived.LaidMore
import Derived.OpenShut
import Derived.Stop.Joined
import Derived.Stop.LaidErr
import Derived.Lib.LaidTab
import Derived.Lay
import Derived.LaidOnce
namespace Go.Proofs.YtincpkncakppbaaDoor
set_option maxRecDepth 100000
open Go.ChangeShapes Go.WideShapes Go.ChangeAt Go.RowKit

abbrev laidFive : List (String × DataW Unit) := [("math/bits.deBruijn32tab", Rows.laid_math_bits_deBruijn32tab), ("math/bits.deBruijn64tab", Rows.laid_math_bits_deBruijn64tab), ("internal/strconv.uint64pow10", Rows.laid_internal_strconv_uint64pow10), ("strconv.ErrRange", Rows.laid_strconv_ErrRange), ("strconv.ErrSyntax", Rows.laid_strconv_ErrSyntax)]

theorem Tryd.tPow : (Tryd.prog.globals[2]?).map (·.type) = some 73 := by kernel_rfl
theorem Tryd.cellsU64 : Tryd.prog.cellsOf 53 = 1 := by kernel_rfl
theorem Tryd.cellsPow : Tryd.prog.cellsOf 73 = 20 := by kernel_rfl
theorem Tryd.gRng : Tryd.prog.globalNamed "strconv.ErrRange" = some 1 := by kernel_rfl
theorem Tryd.tRng : (Tryd.prog.globals[1]?).map (·.type) = some 34 := by kernel_rfl
theorem Tryd.gSyn : Tryd.prog.globalNamed "strconv.ErrSyntax" = some 0 := by kernel_rfl
theorem Tryd.tSyn : (Tryd.prog.globals[0]?).map (·.type) = some 34 := by kernel_rfl
theorem star_str : ("*errors.errorString" : String) = "*" ++ "errors.errorString" := by decide
theorem Tryd.rowErr (u : TypeId) (h : Tryd.prog.typeName? 3 u = some "*errors.errorString") : u = 79 :=
  typeName_ptr_named (nm := "errors.errorString") (by rw [← star_str]; kernel_rfl) (by kernel_rfl) (by decide) u (by rw [← star_str]; exact h)
theorem Tryd.cellsErr : Tryd.prog.cellsOf 81 = 1 := by kernel_rfl
theorem Tryd.cellsStr : Tryd.prog.cellsOf 9 = 1 := by kernel_rfl

/-- What the condition says. -/
theorem t12_of_laid {W : World} (h : laidMetH Tryd.prog laidFive W) : Lin.T12 W := by
  rw [MakeChecks.laidMetH_plain _ _ _ (by kernel_rfl)] at h
  have h3 := h.tail.tail
  have hT := Lib.tabIs_of_head (k := .u64) (zs := Lib.pow10Tab) (rest := laidFive.drop 3) Lin.Tryd.gPow Tryd.tPow Tryd.underlying73 Tryd.underlying53 Tryd.cellsU64 Tryd.cellsPow h3
  obtain ⟨a1, s1, e1, _, _, _⟩ := laid_sentinel h3.tail Tryd.gRng Tryd.tRng Tryd.underlying34 Tryd.rowErr Tryd.underlying79 Tryd.underlying81 rfl rfl Tryd.underlying9 Tryd.cellsErr Tryd.cellsStr
  obtain ⟨a2, s2, e2, _, _, _⟩ := laid_sentinel h3.tail.tail Tryd.gSyn Tryd.tSyn Tryd.underlying34 Tryd.rowErr Tryd.underlying79 Tryd.underlying81 rfl rfl Tryd.underlying9 Tryd.cellsErr Tryd.cellsStr
  exact ⟨hT, ⟨_, _, by simpa using World.var?_cell Tryd.gSyn e2 0⟩, ⟨_, _, by simpa using World.var?_cell Tryd.gRng e1 0⟩⟩

theorem door_five (os : Os) (args : Array Value) : laidMetH Tryd.prog laidFive ((World.doorLaid Tryd.prog 62 os).forCall (fun _ _ => 0) ⟨#[], args, []⟩).memory :=
  laidMetH_of_parts3 (fuel := 8) (laidMet_of_run' 8 (by kernel_rfl) (by kernel_rfl)) (by kernel_rfl) (by kernel_rfl)

theorem lin_ok : Lin.LinOk Lin.T12 where
  keep h k := h.keep k
  words s _ hs := Lin.words_any s hs
  lines s _ hs := Lin.lines_any s hs
  number s hT hs := Lin.number_any s hT hs
  print z hT h0 h1 := (Lin.print_any z hT h0 h1).mono fun _ _ ⟨he, hk⟩ => ⟨⟨_, he, rfl⟩, hk⟩
  lower s _ hs := Lin.lower_any s hs
  word s _ hs := (Lin.word_any s hs).mono fun _ _ ⟨he, hw⟩ => ⟨he, Keep.of_eq hw⟩

theorem Tryd.own12 : ownKnob Tryd.prog.godebug = none := by kernel_rfl
theorem Tryd.laidOut12 : laidOutB Tryd.prog = true := by kernel_rfl
end Go.Proofs.YtincpkncakppbaaDoor
