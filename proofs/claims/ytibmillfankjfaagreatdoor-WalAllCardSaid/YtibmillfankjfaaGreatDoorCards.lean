/-
  DERIVED. GIVEN WITH THE SEED: THE CARDS: each row of YtibmillfankjfaaGreatDoorRows.lean that lists a variable, with what it lists TIED to the program's text (the seventh form; the later family's looks); each row that meets fmt, with fmt's text TOLD by the authors' own Lean function (tested against real Go, not proved from fmt's source: count such statements apart). THE CARD IS WHAT COUNTS. Prove the row's statement (the work); the ties are given (YtibmillfankjfaaGreatDoorTie.lean); close each card by the builder's one call (the guide's Derived/Test/ToyasCard.lean, 'card_holds'). Laid BY PROGRAM, IN A SANDBOX (cutbox-door.mjs). By AI agents, Wed Nov 11 2026. No macro, syntax, notation, axiom, sorry.
-/
import Derived.Test.YtibmillfankjfaaGreatDoorRows
import GoSem.ClaimSeven
namespace Go.Proofs.YtibmillfankjfaaGreatDoor
namespace Rows

/-- THE TIED CARD OF 'lychgatelaw3.WalAll'. -/
def walAllCard : Claim7 := { stood := { row := walAllRow, standIns := [], harness := (true, "51e88626a3c16b7e4f7eb15de9823092ebc17c0912fee7cf3ebfdfc556d059ba"), looks := true }, kinds := [], alts := [], laidByText := true, laidKinds := [.data, .handle], laidTests := true, laidLooks := .later }
def WalAllCardSaid : Prop := Claim7.holds Tryz.pinned (.plain (OpenSpec.ofChange walAllSpec)) walAllCard

/-- THE SECOND FORM's CARD OF 'lychgatelaw3.WalAll'. -/
def walAllUptoCard : Claim7 := { stood := { row := walAllUptoRow, standIns := [], harness := (true, "51e88626a3c16b7e4f7eb15de9823092ebc17c0912fee7cf3ebfdfc556d059ba"), looks := true }, kinds := [], alts := [], laidByText := true, laidKinds := [.data, .handle], laidTests := true, laidLooks := .later }
def WalAllUptoCardSaid : Prop := Claim7.holds Tryz.pinned (.plain (OpenSpec.upto walAllSpec)) walAllUptoCard
end Rows
end Go.Proofs.YtibmillfankjfaaGreatDoor
