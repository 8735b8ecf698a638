/-
  DERIVED. GIVEN WITH THE SEED: THE CARDS: each row of YtflfmcnbojphgaaDoorRows.lean that lists a variable, with what it lists TIED to the program's text (the seventh form; the later family's looks); each row that meets fmt, with fmt's text TOLD by the authors' own Lean function (tested against real Go, not proved from fmt's source: count such statements apart). THE CARD IS WHAT COUNTS. Prove the row's statement (the work); the ties are given (YtflfmcnbojphgaaDoorTie.lean); close each card by the builder's one call (the guide's Derived/Test/ToyasCard.lean, 'card_holds'). Laid BY PROGRAM, IN A SANDBOX (cutbox-door.mjs). By AI agents, Wed Nov 11 2026. No macro, syntax, notation, axiom, sorry.
-/
import Derived.Test.YtflfmcnbojphgaaDoorRows
import GoSem.ClaimSeven
namespace Go.Proofs.YtflfmcnbojphgaaDoor
namespace Rows

/-- THE TIED CARD OF 'lychgatelaw3.WalCrash'. -/
def walCrashCard : Claim7 := { stood := { row := walCrashRow, standIns := [], harness := (true, "928a53de383167e2e87de9949e1b2fe5a3333a27ec0db58d64c0b9cc39e0b3ce"), looks := true }, kinds := [], alts := [], laidByText := true, laidKinds := [.data], laidTests := true, laidLooks := .later }
def WalCrashCardSaid : Prop := Claim7.holds Tryd.pinned (.plain (OpenSpec.ofChange walCrashSpec)) walCrashCard

/-- THE SECOND FORM's CARD OF 'lychgatelaw3.WalCrash'. -/
def walCrashUptoCard : Claim7 := { stood := { row := walCrashUptoRow, standIns := [], harness := (true, "928a53de383167e2e87de9949e1b2fe5a3333a27ec0db58d64c0b9cc39e0b3ce"), looks := true }, kinds := [], alts := [], laidByText := true, laidKinds := [.data], laidTests := true, laidLooks := .later }
def WalCrashUptoCardSaid : Prop := Claim7.holds Tryd.pinned (.plain (OpenSpec.upto walCrashSpec)) walCrashUptoCard
end Rows
end Go.Proofs.YtflfmcnbojphgaaDoor
