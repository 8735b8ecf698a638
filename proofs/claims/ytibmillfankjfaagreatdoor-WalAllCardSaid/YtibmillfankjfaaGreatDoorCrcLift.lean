/- The table of crc: what the condition of a tied row gives; a start that meets it. -/
import Derived.Test.YtibmillfankjfaaGreatDoorCrc
import Derived.ProofKit
import Derived.LaidMore
import Derived.OpenShut
import Derived.Stop.Joined
import Derived.Lib.LaidTab
namespace Go.Proofs.YtibmillfankjfaaGreatDoor
set_option maxRecDepth 100000
open Go.ChangeShapes Go.WideShapes Go.ChangeAt Go.RowKit

abbrev laidTab : List (String × DataW Unit) := [("lychgate/crc.rests", Rows.laid_lychgate_crc_rests)]

theorem Tryz.gTab : Tryz.prog.globalNamed "lychgate/crc.rests" = some 1 := by kernel_rfl
theorem Tryz.tTab : (Tryz.prog.globals[1]?).map (·.type) = some 139 := by kernel_rfl
theorem Tryz.cellsU : Tryz.prog.cellsOf 109 = 1 := by kernel_rfl
theorem Tryz.cellsTab : Tryz.prog.cellsOf 139 = 16 := by kernel_rfl

/-- What the condition says: the table lies there. -/
theorem tab_of_laid {W : World} (h : laidMetH Tryz.prog laidTab W) : Tab W := by
  rw [MakeChecks.laidMetH_plain _ _ _ (by kernel_rfl)] at h
  have hT := Lib.tabIs_of_head (k := .u32) (zs := crcTab) (rest := []) Tryz.gTab Tryz.tTab Tryz.underlying139 Tryz.underlying109 Tryz.cellsU Tryz.cellsTab h
  intro i hi
  rw [hT.cell Tryz.gTab i hi, tab_get i hi]

/-- The door's own heap meets the condition. -/
theorem door_met (os : Os) (args : Array Value) : laidMetH Tryz.prog laidTab ((World.doorLaid Tryz.prog 21 os).forCall (fun _ _ => 0) ⟨#[], args, []⟩).memory :=
  laidMetH_of_parts3 (fuel := 8) (laidMet_of_run' 8 (by kernel_rfl) (by kernel_rfl)) (by kernel_rfl) (by kernel_rfl)

theorem Tryz.ownC : ownKnob Tryz.prog.godebug = none := by kernel_rfl
theorem Tryz.laidOutC : laidOutB Tryz.prog = true := by kernel_rfl

end Go.Proofs.YtibmillfankjfaaGreatDoor
