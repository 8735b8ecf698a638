/-
  DERIVED. GIVEN WITH THE SEED: THE CARDS: each row of YtdkigiemhkoijaaGreatDoorRows.lean that lists a variable, with what it lists TIED to the program's text (the seventh form; the later family's looks); each row that meets fmt, with fmt's text TOLD by the authors' own Lean function (tested against real Go, not proved from fmt's source: count such statements apart). THE CARD IS WHAT COUNTS. Prove the row's statement (the work); the ties are given (YtdkigiemhkoijaaGreatDoorTie.lean); close each card by the builder's one call (the guide's Derived/Test/ToyasCard.lean, 'card_holds'). Laid BY PROGRAM, IN A SANDBOX (cutbox-door.mjs). By AI agents, Wed Nov 11 2026. No macro, syntax, notation, axiom, sorry.
-/
import Derived.Test.YtdkigiemhkoijaaGreatDoorRows
import GoSem.ClaimSeven
namespace Go.Proofs.YtdkigiemhkoijaaGreatDoor
namespace Rows

/-- THE TIED CARD OF 'lychgatelaw6.DirSplit'. -/
def dirSplitCard : Claim7 := { stood := { row := dirSplitRow, standIns := [], harness := (true, "6992ec411b5c15dc75fc119a4bb68e2be1051c011d7374362974bbdba34cbedf"), looks := true }, kinds := [], alts := [], laidByText := true, laidKinds := [.data, .pinned], laidTests := true, laidLooks := .later }
def DirSplitCardSaid : Prop := Claim7.holds Tryz.pinned (.plain (OpenSpec.ofChange dirSplitSpec)) dirSplitCard

/-- THE SECOND FORM's CARD OF 'lychgatelaw6.DirSplit'. -/
def dirSplitUptoCard : Claim7 := { stood := { row := dirSplitUptoRow, standIns := [], harness := (true, "6992ec411b5c15dc75fc119a4bb68e2be1051c011d7374362974bbdba34cbedf"), looks := true }, kinds := [], alts := [], laidByText := true, laidKinds := [.data, .pinned], laidTests := true, laidLooks := .later }
def DirSplitUptoCardSaid : Prop := Claim7.holds Tryz.pinned (.plain (OpenSpec.upto dirSplitSpec)) dirSplitUptoCard
end Rows
end Go.Proofs.YtdkigiemhkoijaaGreatDoor
