/-
  DERIVED. GIVEN WITH THE SEED: THE CARDS: each row of YtebijkpojlngpaaDoorRows.lean that lists a variable, with what it lists TIED to the program's text (the seventh form; the later family's looks); each row that meets fmt, with fmt's text TOLD by the authors' own Lean function (tested against real Go, not proved from fmt's source: count such statements apart). THE CARD IS WHAT COUNTS. Prove the row's statement (the work); the ties are given (YtebijkpojlngpaaDoorTie.lean); close each card by the builder's one call (the guide's Derived/Test/ToyasCard.lean, 'card_holds'). Laid BY PROGRAM, IN A SANDBOX (cutbox-door.mjs). By AI agents, Wed Nov 11 2026. No macro, syntax, notation, axiom, sorry.
-/
import Derived.Test.YtebijkpojlngpaaDoorRows
import GoSem.ClaimSeven
namespace Go.Proofs.YtebijkpojlngpaaDoor
namespace Rows

/-- THE TIED CARD OF 'lychgatelaw8.ShaAll'. -/
def shaAllCard : Claim7 := { stood := { row := shaAllRow, standIns := [], harness := (true, "9c48f34410fb4bf44ff8842dd145f1ec36431a5dfccddb3e2539a25ad36a4738"), looks := false }, kinds := [], alts := [], laidByText := true, laidKinds := [.data], laidTests := true, laidLooks := .later }
def ShaAllCardSaid : Prop := Claim7.holds Tryd.pinned (.plain (OpenSpec.ofChange shaAllSpec)) shaAllCard

/-- THE TIED CARD OF 'lychgatelaw8.ShaPassword'. -/
def shaPasswordCard : Claim7 := { stood := { row := shaPasswordRow, standIns := [], harness := (true, "9c48f34410fb4bf44ff8842dd145f1ec36431a5dfccddb3e2539a25ad36a4738"), looks := false }, kinds := [], alts := [], laidByText := true, laidKinds := [.data], laidTests := true, laidLooks := .later }
def ShaPasswordCardSaid : Prop := Claim7.holds Tryd.pinned (.plain (OpenSpec.ofChange shaPasswordSpec)) shaPasswordCard

/-- THE SECOND FORM's CARD OF 'lychgatelaw8.ShaAll'. -/
def shaAllUptoCard : Claim7 := { stood := { row := shaAllUptoRow, standIns := [], harness := (true, "9c48f34410fb4bf44ff8842dd145f1ec36431a5dfccddb3e2539a25ad36a4738"), looks := false }, kinds := [], alts := [], laidByText := true, laidKinds := [.data], laidTests := true, laidLooks := .later }
def ShaAllUptoCardSaid : Prop := Claim7.holds Tryd.pinned (.plain (OpenSpec.upto shaAllSpec)) shaAllUptoCard

/-- THE SECOND FORM's CARD OF 'lychgatelaw8.ShaPassword'. -/
def shaPasswordUptoCard : Claim7 := { stood := { row := shaPasswordUptoRow, standIns := [], harness := (true, "9c48f34410fb4bf44ff8842dd145f1ec36431a5dfccddb3e2539a25ad36a4738"), looks := false }, kinds := [], alts := [], laidByText := true, laidKinds := [.data], laidTests := true, laidLooks := .later }
def ShaPasswordUptoCardSaid : Prop := Claim7.holds Tryd.pinned (.plain (OpenSpec.upto shaPasswordSpec)) shaPasswordUptoCard
end Rows
end Go.Proofs.YtebijkpojlngpaaDoor
