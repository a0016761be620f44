/-
  No cell of these rows narrows 'for every input' (looked for: loops, veiled, ifaces, maps, wideKeys, modest, calm, conditions, laid).
  DERIVED. THE GIVEN ROWS OF THIS SEAT. 5 by the template 'for every input the law returns true; each argument reads behind the call as it read before'; 0 by the template 'total and deterministic' (their statements: YtjfjdidibglhaaaTotals.lean).
  GIVEN WITH THE SEED: the statements are not yours to turn. If you find one false, say at which input.
  Laid BY PROGRAM, IN A SANDBOX (cutbox-rows.mjs): the forced cells as the released guide's own fill.sh prints them over the translation 16b5dc9976f33339… (all of the seat's roots in one cut). By AI agents, Wed Nov 11 2026. No macro, syntax, notation, axiom, sorry.
-/
import Derived.Test.YtjfjdidibglhaaaChecked
import GoSem.Claim
import GoSem.ClaimJoined
import GoSem.ClaimMapViews
import Derived.JoinedTies
import Derived.KernelRfl
namespace Go.Proofs.Ytjfjdidibglhaaa
/- THE CELL 'sum', in the pinned program and in every row, IS THE sha256 OF THE DUMP (.gsa) THAT YtjfjdidibglhaaaProg.lean LOADS. Nothing in Lean hashes anything: it is a label: what it is worth is what the hold of that sum in a sandbox is worth. -/
noncomputable def Try.pinned : Pinned := { name := "ytjfjdidibglhaaa", sum := "16b5dc9976f3333987bf106cc7ed7d986c53497d23efd40b125550bc6bd2196a", checked := Try.checked }
namespace Rows
def none {H : Type} : Left H := { results := [], args := [] }

/-- 'parterrelaw3.ArrayStrength': WHATEVER THE INPUT: true; the input reads as it did. -/
def arrayStrengthSpec : ChangeSpec := { name := "arrayStrength", fn := fun _ => fun
  | [d1, d2] => { results := [.lit (.bool true)], args := [d1, d2] }
  | _ => none }
def arrayStrengthRow : OpenClaim := { program := "ytjfjdidibglhaaa", sum := "16b5dc9976f3333987bf106cc7ed7d986c53497d23efd40b125550bc6bd2196a", func := "parterre/parterrelaw3.ArrayStrength", spec := "arrayStrength", plainKeys := false, apart := false }
def ArrayStrengthSaid : Prop := arrayStrengthRow.holds Try.pinned (OpenSpec.ofChange arrayStrengthSpec)

/-- ITS FALSE NEIGHBOUR: 'it returns false'. Refute it at one input. -/
def arrayStrengthWrong : ChangeSpec := { name := "arrayStrength", fn := fun _ => fun
  | [d1, d2] => { results := [.lit (.bool false)], args := [d1, d2] }
  | _ => none }
def ArrayStrengthWrongFalsely : Prop := arrayStrengthRow.holds Try.pinned (OpenSpec.ofChange arrayStrengthWrong)

/-- 'parterrelaw3.ArrayParts': WHATEVER THE INPUT: true; the input reads as it did. -/
def arrayPartsSpec : ChangeSpec := { name := "arrayParts", fn := fun _ => fun
  | [d1, d2, d3, d4] => { results := [.lit (.bool true)], args := [d1, d2, d3, d4] }
  | _ => none }
def arrayPartsRow : OpenClaim := { program := "ytjfjdidibglhaaa", sum := "16b5dc9976f3333987bf106cc7ed7d986c53497d23efd40b125550bc6bd2196a", func := "parterre/parterrelaw3.ArrayParts", spec := "arrayParts", plainKeys := false, apart := false }
def ArrayPartsSaid : Prop := arrayPartsRow.holds Try.pinned (OpenSpec.ofChange arrayPartsSpec)

/-- ITS FALSE NEIGHBOUR: 'it returns false'. Refute it at one input. -/
def arrayPartsWrong : ChangeSpec := { name := "arrayParts", fn := fun _ => fun
  | [d1, d2, d3, d4] => { results := [.lit (.bool false)], args := [d1, d2, d3, d4] }
  | _ => none }
def ArrayPartsWrongFalsely : Prop := arrayPartsRow.holds Try.pinned (OpenSpec.ofChange arrayPartsWrong)

/-- 'parterrelaw3.ArrayBounds': WHATEVER THE INPUT: true; the input reads as it did. -/
def arrayBoundsSpec : ChangeSpec := { name := "arrayBounds", fn := fun _ => fun
  | [d1, d2, d3] => { results := [.lit (.bool true)], args := [d1, d2, d3] }
  | _ => none }
def arrayBoundsRow : OpenClaim := { program := "ytjfjdidibglhaaa", sum := "16b5dc9976f3333987bf106cc7ed7d986c53497d23efd40b125550bc6bd2196a", func := "parterre/parterrelaw3.ArrayBounds", spec := "arrayBounds", plainKeys := false, apart := false }
def ArrayBoundsSaid : Prop := arrayBoundsRow.holds Try.pinned (OpenSpec.ofChange arrayBoundsSpec)

/-- ITS FALSE NEIGHBOUR: 'it returns false'. Refute it at one input. -/
def arrayBoundsWrong : ChangeSpec := { name := "arrayBounds", fn := fun _ => fun
  | [d1, d2, d3] => { results := [.lit (.bool false)], args := [d1, d2, d3] }
  | _ => none }
def ArrayBoundsWrongFalsely : Prop := arrayBoundsRow.holds Try.pinned (OpenSpec.ofChange arrayBoundsWrong)

/-- 'parterrelaw3.ArrayRao': WHATEVER THE INPUT: true; the input reads as it did. -/
def arrayRaoSpec : ChangeSpec := { name := "arrayRao", fn := fun _ => fun
  | [d1, d2] => { results := [.lit (.bool true)], args := [d1, d2] }
  | _ => none }
def arrayRaoRow : OpenClaim := { program := "ytjfjdidibglhaaa", sum := "16b5dc9976f3333987bf106cc7ed7d986c53497d23efd40b125550bc6bd2196a", func := "parterre/parterrelaw3.ArrayRao", spec := "arrayRao", plainKeys := false, apart := false }
def ArrayRaoSaid : Prop := arrayRaoRow.holds Try.pinned (OpenSpec.ofChange arrayRaoSpec)

/-- ITS FALSE NEIGHBOUR: 'it returns false'. Refute it at one input. -/
def arrayRaoWrong : ChangeSpec := { name := "arrayRao", fn := fun _ => fun
  | [d1, d2] => { results := [.lit (.bool false)], args := [d1, d2] }
  | _ => none }
def ArrayRaoWrongFalsely : Prop := arrayRaoRow.holds Try.pinned (OpenSpec.ofChange arrayRaoWrong)

/-- 'parterrelaw3.ArrayDown': WHATEVER THE INPUT: true; the input reads as it did. -/
def arrayDownSpec : ChangeSpec := { name := "arrayDown", fn := fun _ => fun
  | [d1, d2, d3, d4] => { results := [.lit (.bool true)], args := [d1, d2, d3, d4] }
  | _ => none }
def arrayDownRow : OpenClaim := { program := "ytjfjdidibglhaaa", sum := "16b5dc9976f3333987bf106cc7ed7d986c53497d23efd40b125550bc6bd2196a", func := "parterre/parterrelaw3.ArrayDown", spec := "arrayDown", plainKeys := false, apart := false }
def ArrayDownSaid : Prop := arrayDownRow.holds Try.pinned (OpenSpec.ofChange arrayDownSpec)

/-- ITS FALSE NEIGHBOUR: 'it returns false'. Refute it at one input. -/
def arrayDownWrong : ChangeSpec := { name := "arrayDown", fn := fun _ => fun
  | [d1, d2, d3, d4] => { results := [.lit (.bool false)], args := [d1, d2, d3, d4] }
  | _ => none }
def ArrayDownWrongFalsely : Prop := arrayDownRow.holds Try.pinned (OpenSpec.ofChange arrayDownWrong)

/- THE SECOND FORM. 'bulk': how many values and letters a reading holds, each counted each time it is reached (what is shared counts as often as it is met; a slice's spare places count too). A statement '..UptoSaid' is the law's where the arguments, and the package variables that the reading takes, are together of bulk at most 1048576: NARROWER than '..Said'. Prove '..Said' where nothing that the law and all that it calls make is longer than what came in: it says more and counts as full. Else prove '..UptoSaid'. A law counts once. -/
mutual
def uptoBulk {H : Type} : DataW H → Nat
  | .lit (.string bytes) => bytes.length + 1
  | .lit _ => 1
  | .nil => 1
  | .ptr d => uptoBulk d + 1
  | .slice elems spare => uptoBulkAll elems + uptoBulkAll spare + 1
  | .agg parts => uptoBulkAll parts + 1
  | .iface _ d => uptoBulk d + 1
  | .map entries => uptoBulkEntries entries + 1
  | .held _ => 1
def uptoBulkAll {H : Type} : List (DataW H) → Nat
  | [] => 0
  | d :: r => uptoBulk d + uptoBulkAll r
def uptoBulkEntries {H : Type} : List (Lit × DataW H) → Nat
  | [] => 0
  | x :: r => uptoBulkEntry x + uptoBulkEntries r
def uptoBulkEntry {H : Type} : Lit × DataW H → Nat
  | (.string bytes, d) => bytes.length + uptoBulk d + 1
  | (_, d) => uptoBulk d + 1
 end
def uptoSmall : (H : Type) → List (DataW H) → Bool := fun _ ds => decide (uptoBulkAll ds ≤ 1048576)
def OpenSpec.upto (s : _root_.Go.ChangeSpec) : _root_.Go.OpenSpec := { _root_.Go.OpenSpec.ofChange s with cond := some uptoSmall }

/-- 'parterrelaw3.ArrayStrength', WHERE WHAT IT READS IS OF BULK AT MOST 1048576: true; the input reads as it did. -/
def arrayStrengthUptoRow : OpenClaim := { program := "ytjfjdidibglhaaa", sum := "16b5dc9976f3333987bf106cc7ed7d986c53497d23efd40b125550bc6bd2196a", func := "parterre/parterrelaw3.ArrayStrength", spec := "arrayStrength", plainKeys := false, apart := false, narrowed := true }
def ArrayStrengthUptoSaid : Prop := arrayStrengthUptoRow.holds Try.pinned (OpenSpec.upto arrayStrengthSpec)

/-- 'parterrelaw3.ArrayParts', WHERE WHAT IT READS IS OF BULK AT MOST 1048576: true; the input reads as it did. -/
def arrayPartsUptoRow : OpenClaim := { program := "ytjfjdidibglhaaa", sum := "16b5dc9976f3333987bf106cc7ed7d986c53497d23efd40b125550bc6bd2196a", func := "parterre/parterrelaw3.ArrayParts", spec := "arrayParts", plainKeys := false, apart := false, narrowed := true }
def ArrayPartsUptoSaid : Prop := arrayPartsUptoRow.holds Try.pinned (OpenSpec.upto arrayPartsSpec)

/-- 'parterrelaw3.ArrayBounds', WHERE WHAT IT READS IS OF BULK AT MOST 1048576: true; the input reads as it did. -/
def arrayBoundsUptoRow : OpenClaim := { program := "ytjfjdidibglhaaa", sum := "16b5dc9976f3333987bf106cc7ed7d986c53497d23efd40b125550bc6bd2196a", func := "parterre/parterrelaw3.ArrayBounds", spec := "arrayBounds", plainKeys := false, apart := false, narrowed := true }
def ArrayBoundsUptoSaid : Prop := arrayBoundsUptoRow.holds Try.pinned (OpenSpec.upto arrayBoundsSpec)

/-- 'parterrelaw3.ArrayRao', WHERE WHAT IT READS IS OF BULK AT MOST 1048576: true; the input reads as it did. -/
def arrayRaoUptoRow : OpenClaim := { program := "ytjfjdidibglhaaa", sum := "16b5dc9976f3333987bf106cc7ed7d986c53497d23efd40b125550bc6bd2196a", func := "parterre/parterrelaw3.ArrayRao", spec := "arrayRao", plainKeys := false, apart := false, narrowed := true }
def ArrayRaoUptoSaid : Prop := arrayRaoUptoRow.holds Try.pinned (OpenSpec.upto arrayRaoSpec)

/-- 'parterrelaw3.ArrayDown', WHERE WHAT IT READS IS OF BULK AT MOST 1048576: true; the input reads as it did. -/
def arrayDownUptoRow : OpenClaim := { program := "ytjfjdidibglhaaa", sum := "16b5dc9976f3333987bf106cc7ed7d986c53497d23efd40b125550bc6bd2196a", func := "parterre/parterrelaw3.ArrayDown", spec := "arrayDown", plainKeys := false, apart := false, narrowed := true }
def ArrayDownUptoSaid : Prop := arrayDownUptoRow.holds Try.pinned (OpenSpec.upto arrayDownSpec)

end Rows
end Go.Proofs.Ytjfjdidibglhaaa
