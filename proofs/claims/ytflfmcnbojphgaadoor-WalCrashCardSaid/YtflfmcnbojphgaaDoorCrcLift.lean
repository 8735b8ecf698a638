/- The table of crc: what the condition of a tied row gives; a start that meets it. -/
import Derived.Test.YtflfmcnbojphgaaDoorCrc
import Derived.ProofKit
import Derived.LaidMore
import Derived.OpenShut
import Derived.Stop.Joined
import Derived.Lib.LaidTab
namespace Go.Proofs.YtflfmcnbojphgaaDoor
set_option maxRecDepth 100000
open Go.ChangeShapes Go.WideShapes Go.ChangeAt Go.RowKit

abbrev laidTab : List (String × DataW Unit) := [("lychgate/crc.rests", Rows.laid_lychgate_crc_rests)]

theorem Tryd.gTab : Tryd.prog.globalNamed "lychgate/crc.rests" = some 0 := by kernel_rfl
theorem Tryd.tTab : (Tryd.prog.globals[0]?).map (·.type) = some 119 := by kernel_rfl
theorem Tryd.cellsU : Tryd.prog.cellsOf 95 = 1 := by kernel_rfl
theorem Tryd.cellsTab : Tryd.prog.cellsOf 119 = 16 := by kernel_rfl

/-- What the condition says: the table lies there. -/
theorem tab_of_laid {W : World} (h : laidMetH Tryd.prog laidTab W) : Tab W := by
  rw [MakeChecks.laidMetH_plain _ _ _ (by kernel_rfl)] at h
  have hT := Lib.tabIs_of_head (k := .u32) (zs := crcTab) (rest := []) Tryd.gTab Tryd.tTab Tryd.underlying119 Tryd.underlying95 Tryd.cellsU Tryd.cellsTab h
  intro i hi
  rw [hT.cell Tryd.gTab i hi, tab_get i hi]

/-- The door's own heap meets the condition. -/
theorem door_met (os : Os) (args : Array Value) : laidMetH Tryd.prog laidTab ((World.doorLaid Tryd.prog 14 os).forCall (fun _ _ => 0) ⟨#[], args, []⟩).memory :=
  laidMetH_of_parts3 (fuel := 8) (laidMet_of_run' 8 (by kernel_rfl) (by kernel_rfl)) (by kernel_rfl) (by kernel_rfl)

theorem Tryd.ownC : ownKnob Tryd.prog.godebug = none := by kernel_rfl
theorem Tryd.laidOutC : laidOutB Tryd.prog = true := by kernel_rfl

end Go.Proofs.YtflfmcnbojphgaaDoor
