/-
  DERIVED. GIVEN WITH THE SEED: THE CARDS: each row of YtcodbomgodkcmaaGreatDoorRows.lean that lists a variable, with what it lists TIED to the program's text (the seventh form; the later family's looks); each row that meets fmt, with fmt's text TOLD by the authors' own Lean function (tested against real Go, not proved from fmt's source: count such statements apart). THE CARD IS WHAT COUNTS. Prove the row's statement (the work); the ties are given (YtcodbomgodkcmaaGreatDoorTie.lean); close each card by the builder's one call (the guide's Derived/Test/ToyasCard.lean, 'card_holds'). Laid BY PROGRAM, IN A SANDBOX (cutbox-door.mjs). By AI agents, Wed Nov 11 2026. No macro, syntax, notation, axiom, sorry.
-/
import Derived.Test.YtcodbomgodkcmaaGreatDoorRows
import GoSem.ClaimSeven
namespace Go.Proofs.YtcodbomgodkcmaaGreatDoor
namespace Rows

/-- THE TIED CARD OF 'lychgatelaw13.DbParse'. -/
def dbParseCard : Claim7 := { stood := { row := dbParseRow, standIns := [], harness := (true, "03515c1be23a7fc72d5c5e88158083bbd5450fa3a14f0255553aaf152585be95"), looks := true }, kinds := [], alts := [], laidByText := true, laidKinds := [.data, .data, .data, .handle, .sentinel, .sentinel], laidTests := true, laidLooks := .later }
def DbParseCardSaid : Prop := Claim7.holds Tryz.pinned (.plain (OpenSpec.ofChange dbParseSpec)) dbParseCard

/-- THE TIED CARD OF 'lychgatelaw13.DbBounds'. -/
def dbBoundsCard : Claim7 := { stood := { row := dbBoundsRow, standIns := [], harness := (true, "03515c1be23a7fc72d5c5e88158083bbd5450fa3a14f0255553aaf152585be95"), looks := true }, kinds := [], alts := [], laidByText := true, laidKinds := [.data, .data, .data, .handle, .sentinel, .sentinel], laidTests := true, laidLooks := .later }
def DbBoundsCardSaid : Prop := Claim7.holds Tryz.pinned (.plain (OpenSpec.ofChange dbBoundsSpec)) dbBoundsCard

/-- THE TIED CARD OF 'lychgatelaw13.DbMany'. -/
def dbManyCard : Claim7 := { stood := { row := dbManyRow, standIns := [], harness := (true, "03515c1be23a7fc72d5c5e88158083bbd5450fa3a14f0255553aaf152585be95"), looks := true }, kinds := [], alts := [], laidByText := true, laidKinds := [.data, .data, .data, .handle, .sentinel, .sentinel], laidTests := true, laidLooks := .later }
def DbManyCardSaid : Prop := Claim7.holds Tryz.pinned (.plain (OpenSpec.ofChange dbManySpec)) dbManyCard

/-- THE SECOND FORM's CARD OF 'lychgatelaw13.DbParse'. -/
def dbParseUptoCard : Claim7 := { stood := { row := dbParseUptoRow, standIns := [], harness := (true, "03515c1be23a7fc72d5c5e88158083bbd5450fa3a14f0255553aaf152585be95"), looks := true }, kinds := [], alts := [], laidByText := true, laidKinds := [.data, .data, .data, .handle, .sentinel, .sentinel], laidTests := true, laidLooks := .later }
def DbParseUptoCardSaid : Prop := Claim7.holds Tryz.pinned (.plain (OpenSpec.upto dbParseSpec)) dbParseUptoCard

/-- THE SECOND FORM's CARD OF 'lychgatelaw13.DbBounds'. -/
def dbBoundsUptoCard : Claim7 := { stood := { row := dbBoundsUptoRow, standIns := [], harness := (true, "03515c1be23a7fc72d5c5e88158083bbd5450fa3a14f0255553aaf152585be95"), looks := true }, kinds := [], alts := [], laidByText := true, laidKinds := [.data, .data, .data, .handle, .sentinel, .sentinel], laidTests := true, laidLooks := .later }
def DbBoundsUptoCardSaid : Prop := Claim7.holds Tryz.pinned (.plain (OpenSpec.upto dbBoundsSpec)) dbBoundsUptoCard

/-- THE SECOND FORM's CARD OF 'lychgatelaw13.DbMany'. -/
def dbManyUptoCard : Claim7 := { stood := { row := dbManyUptoRow, standIns := [], harness := (true, "03515c1be23a7fc72d5c5e88158083bbd5450fa3a14f0255553aaf152585be95"), looks := true }, kinds := [], alts := [], laidByText := true, laidKinds := [.data, .data, .data, .handle, .sentinel, .sentinel], laidTests := true, laidLooks := .later }
def DbManyUptoCardSaid : Prop := Claim7.holds Tryz.pinned (.plain (OpenSpec.upto dbManySpec)) dbManyUptoCard
end Rows
end Go.Proofs.YtcodbomgodkcmaaGreatDoor
