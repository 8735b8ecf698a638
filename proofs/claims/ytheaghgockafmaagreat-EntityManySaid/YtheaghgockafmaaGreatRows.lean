/-
  No cell of these rows narrows 'for every input' (looked for: loops, veiled, ifaces, maps, wideKeys, modest, calm, conditions, laid).
  DERIVED. THE GIVEN ROWS OF THIS SEAT. 3 by the template 'for every input the law returns true; each argument reads behind the call as it read before'; 0 by the template 'total and deterministic' (their statements: YtheaghgockafmaaGreatTotals.lean).
  GIVEN WITH THE SEED: the statements are not yours to turn. If you find one false, say at which input.
  Laid BY PROGRAM, IN A SANDBOX (cutbox-rows.mjs): the forced cells as the released guide's own fill.sh prints them over the translation 5c8d44d3055651c2… (all of the seat's roots in one cut). By AI agents, Wed Nov 11 2026. No macro, syntax, notation, axiom, sorry.
-/
import Derived.Test.YtheaghgockafmaaGreatChecked
import GoSem.Claim
import GoSem.ClaimJoined
import GoSem.ClaimMapViews
import Derived.JoinedTies
import Derived.KernelRfl
namespace Go.Proofs.YtheaghgockafmaaGreat
/- THE CELL 'sum', in the pinned program and in every row, IS THE sha256 OF THE DUMP (.gsa) THAT YtheaghgockafmaaGreatProg.lean LOADS. Nothing in Lean hashes anything: it is a label: what it is worth is what the hold of that sum in a sandbox is worth. -/
noncomputable def Tryz.pinned : Pinned := { name := "ytheaghgockafmaagreat", sum := "5c8d44d3055651c2a79debb6721362b5b5567026f0620b85e3fdd1b35ee919ce", checked := Tryz.checked }
namespace Rows
def none {H : Type} : Left H := { results := [], args := [] }

/-- 'lychgatelaw16.EntityMakes': WHATEVER THE INPUT: true; the input reads as it did. -/
def entityMakesSpec : ChangeSpec := { name := "entityMakes", fn := fun _ => fun
  | [d1, d2, d3, d4] => { results := [.lit (.bool true)], args := [d1, d2, d3, d4] }
  | _ => none }
def entityMakesRow : OpenClaim := { program := "ytheaghgockafmaagreat", sum := "5c8d44d3055651c2a79debb6721362b5b5567026f0620b85e3fdd1b35ee919ce", func := "lychgate/lychgatelaw16.EntityMakes", spec := "entityMakes", inPlace := ["math/bits.Add64"], unfollowed := true, recurses := true, apart := false }
def EntityMakesSaid : Prop := entityMakesRow.holds Tryz.pinned (OpenSpec.ofChange entityMakesSpec)

/-- ITS FALSE NEIGHBOUR: 'it returns false'. Refute it at one input. -/
def entityMakesWrong : ChangeSpec := { name := "entityMakes", fn := fun _ => fun
  | [d1, d2, d3, d4] => { results := [.lit (.bool false)], args := [d1, d2, d3, d4] }
  | _ => none }
def EntityMakesWrongFalsely : Prop := entityMakesRow.holds Tryz.pinned (OpenSpec.ofChange entityMakesWrong)

/-- 'lychgatelaw16.EntityNew': WHATEVER THE INPUT: true; the input reads as it did. -/
def entityNewSpec : ChangeSpec := { name := "entityNew", fn := fun _ => fun
  | [d] => { results := [.lit (.bool true)], args := [d] }
  | _ => none }
def entityNewRow : OpenClaim := { program := "ytheaghgockafmaagreat", sum := "5c8d44d3055651c2a79debb6721362b5b5567026f0620b85e3fdd1b35ee919ce", func := "lychgate/lychgatelaw16.EntityNew", spec := "entityNew", inPlace := ["math/bits.Add64"], unfollowed := true, recurses := true, apart := false }
def EntityNewSaid : Prop := entityNewRow.holds Tryz.pinned (OpenSpec.ofChange entityNewSpec)

/-- ITS FALSE NEIGHBOUR: 'it returns false'. Refute it at one input. -/
def entityNewWrong : ChangeSpec := { name := "entityNew", fn := fun _ => fun
  | [d] => { results := [.lit (.bool false)], args := [d] }
  | _ => none }
def EntityNewWrongFalsely : Prop := entityNewRow.holds Tryz.pinned (OpenSpec.ofChange entityNewWrong)

/-- 'lychgatelaw16.EntityMany': WHATEVER THE INPUT: true; the input reads as it did. -/
def entityManySpec : ChangeSpec := { name := "entityMany", fn := fun _ => fun
  | [d] => { results := [.lit (.bool true)], args := [d] }
  | _ => none }
def entityManyRow : OpenClaim := { program := "ytheaghgockafmaagreat", sum := "5c8d44d3055651c2a79debb6721362b5b5567026f0620b85e3fdd1b35ee919ce", func := "lychgate/lychgatelaw16.EntityMany", spec := "entityMany", inPlace := ["math/bits.Add64"], unfollowed := true, recurses := true, apart := false }
def EntityManySaid : Prop := entityManyRow.holds Tryz.pinned (OpenSpec.ofChange entityManySpec)

/-- ITS FALSE NEIGHBOUR: 'it returns false'. Refute it at one input. -/
def entityManyWrong : ChangeSpec := { name := "entityMany", fn := fun _ => fun
  | [d] => { results := [.lit (.bool false)], args := [d] }
  | _ => none }
def EntityManyWrongFalsely : Prop := entityManyRow.holds Tryz.pinned (OpenSpec.ofChange entityManyWrong)

/- THE SECOND FORM. 'bulk': how many values and letters a reading holds, each counted each time it is reached (what is shared counts as often as it is met; a slice's spare places count too). A statement '..UptoSaid' is the law's where the arguments, and the package variables that the reading takes, are together of bulk at most 1048576: NARROWER than '..Said'. Prove '..Said' where nothing that the law and all that it calls make is longer than what came in: it says more and counts as full. Else prove '..UptoSaid'. A law counts once. -/
mutual
def uptoBulk {H : Type} : DataW H → Nat
  | .lit (.string bytes) => bytes.length + 1
  | .lit _ => 1
  | .nil => 1
  | .ptr d => uptoBulk d + 1
  | .slice elems spare => uptoBulkAll elems + uptoBulkAll spare + 1
  | .agg parts => uptoBulkAll parts + 1
  | .iface _ d => uptoBulk d + 1
  | .map entries => uptoBulkEntries entries + 1
  | .held _ => 1
def uptoBulkAll {H : Type} : List (DataW H) → Nat
  | [] => 0
  | d :: r => uptoBulk d + uptoBulkAll r
def uptoBulkEntries {H : Type} : List (Lit × DataW H) → Nat
  | [] => 0
  | x :: r => uptoBulkEntry x + uptoBulkEntries r
def uptoBulkEntry {H : Type} : Lit × DataW H → Nat
  | (.string bytes, d) => bytes.length + uptoBulk d + 1
  | (_, d) => uptoBulk d + 1
 end
def uptoSmall : (H : Type) → List (DataW H) → Bool := fun _ ds => decide (uptoBulkAll ds ≤ 1048576)
def OpenSpec.upto (s : _root_.Go.ChangeSpec) : _root_.Go.OpenSpec := { _root_.Go.OpenSpec.ofChange s with cond := some uptoSmall }

/-- 'lychgatelaw16.EntityMakes', WHERE WHAT IT READS IS OF BULK AT MOST 1048576: true; the input reads as it did. -/
def entityMakesUptoRow : OpenClaim := { program := "ytheaghgockafmaagreat", sum := "5c8d44d3055651c2a79debb6721362b5b5567026f0620b85e3fdd1b35ee919ce", func := "lychgate/lychgatelaw16.EntityMakes", spec := "entityMakes", inPlace := ["math/bits.Add64"], unfollowed := true, recurses := true, apart := false, narrowed := true }
def EntityMakesUptoSaid : Prop := entityMakesUptoRow.holds Tryz.pinned (OpenSpec.upto entityMakesSpec)

/-- 'lychgatelaw16.EntityNew', WHERE WHAT IT READS IS OF BULK AT MOST 1048576: true; the input reads as it did. -/
def entityNewUptoRow : OpenClaim := { program := "ytheaghgockafmaagreat", sum := "5c8d44d3055651c2a79debb6721362b5b5567026f0620b85e3fdd1b35ee919ce", func := "lychgate/lychgatelaw16.EntityNew", spec := "entityNew", inPlace := ["math/bits.Add64"], unfollowed := true, recurses := true, apart := false, narrowed := true }
def EntityNewUptoSaid : Prop := entityNewUptoRow.holds Tryz.pinned (OpenSpec.upto entityNewSpec)

/-- 'lychgatelaw16.EntityMany', WHERE WHAT IT READS IS OF BULK AT MOST 1048576: true; the input reads as it did. -/
def entityManyUptoRow : OpenClaim := { program := "ytheaghgockafmaagreat", sum := "5c8d44d3055651c2a79debb6721362b5b5567026f0620b85e3fdd1b35ee919ce", func := "lychgate/lychgatelaw16.EntityMany", spec := "entityMany", inPlace := ["math/bits.Add64"], unfollowed := true, recurses := true, apart := false, narrowed := true }
def EntityManyUptoSaid : Prop := entityManyUptoRow.holds Tryz.pinned (OpenSpec.upto entityManySpec)

end Rows
end Go.Proofs.YtheaghgockafmaaGreat
