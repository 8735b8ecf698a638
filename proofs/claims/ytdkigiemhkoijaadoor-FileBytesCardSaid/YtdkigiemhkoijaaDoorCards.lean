/-
  DERIVED. GIVEN WITH THE SEED: THE CARDS: each row of YtdkigiemhkoijaaDoorRows.lean that lists a variable, with what it lists TIED to the program's text (the seventh form; the later family's looks); each row that meets fmt, with fmt's text TOLD by the authors' own Lean function (tested against real Go, not proved from fmt's source: count such statements apart). THE CARD IS WHAT COUNTS. Prove the row's statement (the work); the ties are given (YtdkigiemhkoijaaDoorTie.lean); close each card by the builder's one call (the guide's Derived/Test/ToyasCard.lean, 'card_holds'). Laid BY PROGRAM, IN A SANDBOX (cutbox-door.mjs). By AI agents, Wed Nov 11 2026. No macro, syntax, notation, axiom, sorry.
-/
import Derived.Test.YtdkigiemhkoijaaDoorRows
import GoSem.ClaimSeven
namespace Go.Proofs.YtdkigiemhkoijaaDoor
namespace Rows

/-- THE TIED CARD OF 'lychgatelaw5.FileBytes'. -/
def fileBytesCard : Claim7 := { stood := { row := fileBytesRow, standIns := [], harness := (true, "9647f916d3117444d92eb4e0ed40be410904bd50a88f3a0fbf27f8557929cbcc"), looks := true }, kinds := [], alts := [], laidByText := true, laidKinds := [.data], laidTests := true, laidLooks := .later }
def FileBytesCardSaid : Prop := Claim7.holds Tryd.pinned (.plain (OpenSpec.ofChange fileBytesSpec)) fileBytesCard

/-- THE SECOND FORM's CARD OF 'lychgatelaw5.FileBytes'. -/
def fileBytesUptoCard : Claim7 := { stood := { row := fileBytesUptoRow, standIns := [], harness := (true, "9647f916d3117444d92eb4e0ed40be410904bd50a88f3a0fbf27f8557929cbcc"), looks := true }, kinds := [], alts := [], laidByText := true, laidKinds := [.data], laidTests := true, laidLooks := .later }
def FileBytesUptoCardSaid : Prop := Claim7.holds Tryd.pinned (.plain (OpenSpec.upto fileBytesSpec)) fileBytesUptoCard
end Rows
end Go.Proofs.YtdkigiemhkoijaaDoor
