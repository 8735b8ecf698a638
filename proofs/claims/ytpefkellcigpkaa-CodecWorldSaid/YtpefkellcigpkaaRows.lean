/-
  No cell of these rows narrows 'for every input' (looked for: loops, veiled, ifaces, maps, wideKeys, modest, calm, conditions, laid).
  DERIVED. THE GIVEN ROWS OF THIS SEAT. 3 by the template 'for every input the law returns true; each argument reads behind the call as it read before'; 0 by the template 'total and deterministic' (their statements: YtpefkellcigpkaaTotals.lean).
  GIVEN WITH THE SEED: the statements are not yours to turn. If you find one false, say at which input.
  Laid BY PROGRAM, IN A SANDBOX (cutbox-rows.mjs): the forced cells as the released guide's own fill.sh prints them over the translation c27935ddc6b83395… (all of the seat's roots in one cut). By AI agents, Wed Nov 11 2026. No macro, syntax, notation, axiom, sorry.
-/
import Derived.Test.YtpefkellcigpkaaChecked
import GoSem.Claim
import GoSem.ClaimJoined
import GoSem.ClaimMapViews
import Derived.JoinedTies
import Derived.KernelRfl
namespace Go.Proofs.Ytpefkellcigpkaa
/- THE CELL 'sum', in the pinned program and in every row, IS THE sha256 OF THE DUMP (.gsa) THAT YtpefkellcigpkaaProg.lean LOADS. Nothing in Lean hashes anything: it is a label: what it is worth is what the hold of that sum in a sandbox is worth. -/
noncomputable def Try.pinned : Pinned := { name := "ytpefkellcigpkaa", sum := "c27935ddc6b83395efecb8ae040fa21b609cb74ce410ecf741b0c7f647d4d5bb", checked := Try.checked }
namespace Rows
def none {H : Type} : Left H := { results := [], args := [] }

/-- 'lychgatelaw9.CodecWorld': WHATEVER THE INPUT: true; the input reads as it did. -/
def codecWorldSpec : ChangeSpec := { name := "codecWorld", fn := fun _ => fun
  | [d1, d2] => { results := [.lit (.bool true)], args := [d1, d2] }
  | _ => none }
def codecWorldRow : OpenClaim := { program := "ytpefkellcigpkaa", sum := "c27935ddc6b83395efecb8ae040fa21b609cb74ce410ecf741b0c7f647d4d5bb", func := "lychgate/lychgatelaw9.CodecWorld", spec := "codecWorld", inPlace := ["internal/reflectlite.TypeOf"], unfollowed := true, recurses := true, apart := false }
def CodecWorldSaid : Prop := codecWorldRow.holds Try.pinned (OpenSpec.ofChange codecWorldSpec)

/-- ITS FALSE NEIGHBOUR: 'it returns false'. Refute it at one input. -/
def codecWorldWrong : ChangeSpec := { name := "codecWorld", fn := fun _ => fun
  | [d1, d2] => { results := [.lit (.bool false)], args := [d1, d2] }
  | _ => none }
def CodecWorldWrongFalsely : Prop := codecWorldRow.holds Try.pinned (OpenSpec.ofChange codecWorldWrong)

/-- 'lychgatelaw9.CodecEvent': WHATEVER THE INPUT: true; the input reads as it did. -/
def codecEventSpec : ChangeSpec := { name := "codecEvent", fn := fun _ => fun
  | [d1, d2] => { results := [.lit (.bool true)], args := [d1, d2] }
  | _ => none }
def codecEventRow : OpenClaim := { program := "ytpefkellcigpkaa", sum := "c27935ddc6b83395efecb8ae040fa21b609cb74ce410ecf741b0c7f647d4d5bb", func := "lychgate/lychgatelaw9.CodecEvent", spec := "codecEvent", inPlace := ["internal/reflectlite.TypeOf"], unfollowed := true, recurses := true, apart := false }
def CodecEventSaid : Prop := codecEventRow.holds Try.pinned (OpenSpec.ofChange codecEventSpec)

/-- ITS FALSE NEIGHBOUR: 'it returns false'. Refute it at one input. -/
def codecEventWrong : ChangeSpec := { name := "codecEvent", fn := fun _ => fun
  | [d1, d2] => { results := [.lit (.bool false)], args := [d1, d2] }
  | _ => none }
def CodecEventWrongFalsely : Prop := codecEventRow.holds Try.pinned (OpenSpec.ofChange codecEventWrong)

/-- 'lychgatelaw9.CodecBytes': WHATEVER THE INPUT: true; the input reads as it did. -/
def codecBytesSpec : ChangeSpec := { name := "codecBytes", fn := fun _ => fun
  | [d1, d2, d3, d4, d5, d6] => { results := [.lit (.bool true)], args := [d1, d2, d3, d4, d5, d6] }
  | _ => none }
def codecBytesRow : OpenClaim := { program := "ytpefkellcigpkaa", sum := "c27935ddc6b83395efecb8ae040fa21b609cb74ce410ecf741b0c7f647d4d5bb", func := "lychgate/lychgatelaw9.CodecBytes", spec := "codecBytes", inPlace := ["internal/reflectlite.TypeOf"], unfollowed := true, recurses := true, apart := false }
def CodecBytesSaid : Prop := codecBytesRow.holds Try.pinned (OpenSpec.ofChange codecBytesSpec)

/-- ITS FALSE NEIGHBOUR: 'it returns false'. Refute it at one input. -/
def codecBytesWrong : ChangeSpec := { name := "codecBytes", fn := fun _ => fun
  | [d1, d2, d3, d4, d5, d6] => { results := [.lit (.bool false)], args := [d1, d2, d3, d4, d5, d6] }
  | _ => none }
def CodecBytesWrongFalsely : Prop := codecBytesRow.holds Try.pinned (OpenSpec.ofChange codecBytesWrong)

/- THE SECOND FORM. 'bulk': how many values and letters a reading holds, each counted each time it is reached (what is shared counts as often as it is met; a slice's spare places count too). A statement '..UptoSaid' is the law's where the arguments, and the package variables that the reading takes, are together of bulk at most 1048576: NARROWER than '..Said'. Prove '..Said' where nothing that the law and all that it calls make is longer than what came in: it says more and counts as full. Else prove '..UptoSaid'. A law counts once. -/
mutual
def uptoBulk {H : Type} : DataW H → Nat
  | .lit (.string bytes) => bytes.length + 1
  | .lit _ => 1
  | .nil => 1
  | .ptr d => uptoBulk d + 1
  | .slice elems spare => uptoBulkAll elems + uptoBulkAll spare + 1
  | .agg parts => uptoBulkAll parts + 1
  | .iface _ d => uptoBulk d + 1
  | .map entries => uptoBulkEntries entries + 1
  | .held _ => 1
def uptoBulkAll {H : Type} : List (DataW H) → Nat
  | [] => 0
  | d :: r => uptoBulk d + uptoBulkAll r
def uptoBulkEntries {H : Type} : List (Lit × DataW H) → Nat
  | [] => 0
  | x :: r => uptoBulkEntry x + uptoBulkEntries r
def uptoBulkEntry {H : Type} : Lit × DataW H → Nat
  | (.string bytes, d) => bytes.length + uptoBulk d + 1
  | (_, d) => uptoBulk d + 1
 end
def uptoSmall : (H : Type) → List (DataW H) → Bool := fun _ ds => decide (uptoBulkAll ds ≤ 1048576)
def OpenSpec.upto (s : _root_.Go.ChangeSpec) : _root_.Go.OpenSpec := { _root_.Go.OpenSpec.ofChange s with cond := some uptoSmall }

/-- 'lychgatelaw9.CodecWorld', WHERE WHAT IT READS IS OF BULK AT MOST 1048576: true; the input reads as it did. -/
def codecWorldUptoRow : OpenClaim := { program := "ytpefkellcigpkaa", sum := "c27935ddc6b83395efecb8ae040fa21b609cb74ce410ecf741b0c7f647d4d5bb", func := "lychgate/lychgatelaw9.CodecWorld", spec := "codecWorld", inPlace := ["internal/reflectlite.TypeOf"], unfollowed := true, recurses := true, apart := false, narrowed := true }
def CodecWorldUptoSaid : Prop := codecWorldUptoRow.holds Try.pinned (OpenSpec.upto codecWorldSpec)

/-- 'lychgatelaw9.CodecEvent', WHERE WHAT IT READS IS OF BULK AT MOST 1048576: true; the input reads as it did. -/
def codecEventUptoRow : OpenClaim := { program := "ytpefkellcigpkaa", sum := "c27935ddc6b83395efecb8ae040fa21b609cb74ce410ecf741b0c7f647d4d5bb", func := "lychgate/lychgatelaw9.CodecEvent", spec := "codecEvent", inPlace := ["internal/reflectlite.TypeOf"], unfollowed := true, recurses := true, apart := false, narrowed := true }
def CodecEventUptoSaid : Prop := codecEventUptoRow.holds Try.pinned (OpenSpec.upto codecEventSpec)

/-- 'lychgatelaw9.CodecBytes', WHERE WHAT IT READS IS OF BULK AT MOST 1048576: true; the input reads as it did. -/
def codecBytesUptoRow : OpenClaim := { program := "ytpefkellcigpkaa", sum := "c27935ddc6b83395efecb8ae040fa21b609cb74ce410ecf741b0c7f647d4d5bb", func := "lychgate/lychgatelaw9.CodecBytes", spec := "codecBytes", inPlace := ["internal/reflectlite.TypeOf"], unfollowed := true, recurses := true, apart := false, narrowed := true }
def CodecBytesUptoSaid : Prop := codecBytesUptoRow.holds Try.pinned (OpenSpec.upto codecBytesSpec)

end Rows
end Go.Proofs.Ytpefkellcigpkaa
