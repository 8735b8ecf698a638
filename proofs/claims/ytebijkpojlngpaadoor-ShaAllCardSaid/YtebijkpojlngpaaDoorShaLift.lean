/- The table of sha: what the condition of a tied row gives; a start that meets it. -/
import Derived.Test.YtebijkpojlngpaaDoorShaJ
import Derived.ProofKit
import Derived.LaidMore
import Derived.OpenShut
import Derived.Stop.Joined
import Derived.Lib.LaidTab
namespace Go.Proofs.YtebijkpojlngpaaDoor.Sha
set_option maxRecDepth 100000
open Go.ChangeShapes Go.WideShapes Go.ChangeAt Go.RowKit Go.Proofs.YtebijkpojlngpaaDoor

abbrev laidRoots : List (String × DataW Unit) := [("lychgate/sha.roots", Rows.laid_lychgate_sha_roots)]

def rootsTab : List Int := [1116352408, 1899447441, 3049323471, 3921009573, 961987163, 1508970993, 2453635748, 2870763221, 3624381080, 310598401, 607225278, 1426881987, 1925078388, 2162078206, 2614888103, 3248222580, 3835390401, 4022224774, 264347078, 604807628, 770255983, 1249150122, 1555081692, 1996064986, 2554220882, 2821834349, 2952996808, 3210313671, 3336571891, 3584528711, 113926993, 338241895, 666307205, 773529912, 1294757372, 1396182291, 1695183700, 1986661051, 2177026350, 2456956037, 2730485921, 2820302411, 3259730800, 3345764771, 3516065817, 3600352804, 4094571909, 275423344, 430227734, 506948616, 659060556, 883997877, 958139571, 1322822218, 1537002063, 1747873779, 1955562222, 2024104815, 2227730452, 2361852424, 2428436474, 2756734187, 3204031479, 3329325298]

theorem roots_all : ∀ i : Fin 64, rootsTab.getD i.1 0 = n32 (shaK.getD i.1 0) := by decide +kernel

theorem Tryd.gRoots : Tryd.prog.globalNamed "lychgate/sha.roots" = some 0 := by kernel_rfl
theorem Tryd.tRoots : (Tryd.prog.globals[0]?).map (·.type) = some 40 := by kernel_rfl
theorem Tryd.cellsU : Tryd.prog.cellsOf 32 = 1 := by kernel_rfl
theorem Tryd.cells64 : Tryd.prog.cellsOf 40 = 64 := by kernel_rfl

/-- What the condition says: the table lies there. -/
theorem roots_of_laid {W : World} (h : laidMetH Tryd.prog laidRoots W) : Roots W := by
  rw [MakeChecks.laidMetH_plain _ _ _ (by kernel_rfl)] at h
  have hT := Lib.tabIs_of_head (k := .u32) (zs := rootsTab) (rest := []) Tryd.gRoots Tryd.tRoots Tryd.underlying40 Tryd.underlying32 Tryd.cellsU Tryd.cells64 h
  intro i hi
  rw [hT.cell Tryd.gRoots i hi, roots_all ⟨i, hi⟩]

/-- The door's own heap meets the condition. -/
theorem door_met8 (os : Os) (args : Array Value) : laidMetH Tryd.prog laidRoots ((World.doorLaid Tryd.prog 14 os).forCall (fun _ _ => 0) ⟨#[], args, []⟩).memory :=
  laidMetH_of_parts3 (fuel := 8) (laidMet_of_run' 8 (by kernel_rfl) (by kernel_rfl)) (by kernel_rfl) (by kernel_rfl)

theorem Tryd.own8 : ownKnob Tryd.prog.godebug = none := by kernel_rfl
theorem Tryd.laidOut8 : laidOutB Tryd.prog = true := by kernel_rfl

end Go.Proofs.YtebijkpojlngpaaDoor.Sha
