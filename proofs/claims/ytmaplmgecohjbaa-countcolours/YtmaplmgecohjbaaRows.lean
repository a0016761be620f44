/-
  No cell of these rows narrows 'for every input' (looked for: loops, veiled, ifaces, maps, wideKeys, modest, calm, conditions, laid).
  DERIVED. THE GIVEN ROWS OF THIS SEAT. 6 by the template 'for every input the law returns true; each argument reads behind the call as it read before'; 0 by the template 'total and deterministic' (their statements: YtmaplmgecohjbaaTotals.lean).
  GIVEN WITH THE SEED: the statements are not yours to turn. If you find one false, say at which input.
  Laid BY PROGRAM, IN A SANDBOX (cutbox-rows.mjs): the forced cells as the released guide's own fill.sh prints them over the translation 5c5131a5e076a762… (all of the seat's roots in one cut). By AI agents, Wed Nov 11 2026. No macro, syntax, notation, axiom, sorry.
-/
import Derived.Test.YtmaplmgecohjbaaChecked
import GoSem.Claim
import GoSem.ClaimJoined
import GoSem.ClaimMapViews
import Derived.JoinedTies
import Derived.KernelRfl
namespace Go.Proofs.Ytmaplmgecohjbaa
/- THE CELL 'sum', in the pinned program and in every row, IS THE sha256 OF THE DUMP (.gsa) THAT YtmaplmgecohjbaaProg.lean LOADS. Nothing in Lean hashes anything: it is a label: what it is worth is what the hold of that sum in a sandbox is worth. -/
noncomputable def Try.pinned : Pinned := { name := "ytmaplmgecohjbaa", sum := "5c5131a5e076a7624ef89a4c9de003adc09eb267b2a04cbe4d3068e98af5a845", checked := Try.checked }
namespace Rows
def none {H : Type} : Left H := { results := [], args := [] }

/-- 'parterrelaw1.CountRings': WHATEVER THE INPUT: true; the input reads as it did. -/
def countRingsSpec : ChangeSpec := { name := "countRings", fn := fun _ => fun
  | [d1, d2] => { results := [.lit (.bool true)], args := [d1, d2] }
  | _ => none }
def countRingsRow : OpenClaim := { program := "ytmaplmgecohjbaa", sum := "5c5131a5e076a7624ef89a4c9de003adc09eb267b2a04cbe4d3068e98af5a845", func := "parterre/parterrelaw1.CountRings", spec := "countRings", unfollowed := true, recurses := true, plainKeys := false, apart := false }
def CountRingsSaid : Prop := countRingsRow.holds Try.pinned (OpenSpec.ofChange countRingsSpec)

/-- ITS FALSE NEIGHBOUR: 'it returns false'. Refute it at one input. -/
def countRingsWrong : ChangeSpec := { name := "countRings", fn := fun _ => fun
  | [d1, d2] => { results := [.lit (.bool false)], args := [d1, d2] }
  | _ => none }
def CountRingsWrongFalsely : Prop := countRingsRow.holds Try.pinned (OpenSpec.ofChange countRingsWrong)

/-- 'parterrelaw1.CountColours': WHATEVER THE INPUT: true; the input reads as it did. -/
def countColoursSpec : ChangeSpec := { name := "countColours", fn := fun _ => fun
  | [d1, d2, d3] => { results := [.lit (.bool true)], args := [d1, d2, d3] }
  | _ => none }
def countColoursRow : OpenClaim := { program := "ytmaplmgecohjbaa", sum := "5c5131a5e076a7624ef89a4c9de003adc09eb267b2a04cbe4d3068e98af5a845", func := "parterre/parterrelaw1.CountColours", spec := "countColours", unfollowed := true, recurses := true, plainKeys := false, apart := false }
def CountColoursSaid : Prop := countColoursRow.holds Try.pinned (OpenSpec.ofChange countColoursSpec)

/-- ITS FALSE NEIGHBOUR: 'it returns false'. Refute it at one input. -/
def countColoursWrong : ChangeSpec := { name := "countColours", fn := fun _ => fun
  | [d1, d2, d3] => { results := [.lit (.bool false)], args := [d1, d2, d3] }
  | _ => none }
def CountColoursWrongFalsely : Prop := countColoursRow.holds Try.pinned (OpenSpec.ofChange countColoursWrong)

/-- 'parterrelaw1.CountContent': WHATEVER THE INPUT: true; the input reads as it did. -/
def countContentSpec : ChangeSpec := { name := "countContent", fn := fun _ => fun
  | [d1, d2, d3] => { results := [.lit (.bool true)], args := [d1, d2, d3] }
  | _ => none }
def countContentRow : OpenClaim := { program := "ytmaplmgecohjbaa", sum := "5c5131a5e076a7624ef89a4c9de003adc09eb267b2a04cbe4d3068e98af5a845", func := "parterre/parterrelaw1.CountContent", spec := "countContent", unfollowed := true, recurses := true, plainKeys := false, apart := false }
def CountContentSaid : Prop := countContentRow.holds Try.pinned (OpenSpec.ofChange countContentSpec)

/-- ITS FALSE NEIGHBOUR: 'it returns false'. Refute it at one input. -/
def countContentWrong : ChangeSpec := { name := "countContent", fn := fun _ => fun
  | [d1, d2, d3] => { results := [.lit (.bool false)], args := [d1, d2, d3] }
  | _ => none }
def CountContentWrongFalsely : Prop := countContentRow.holds Try.pinned (OpenSpec.ofChange countContentWrong)

/-- 'parterrelaw1.CountPrime': WHATEVER THE INPUT: true; the input reads as it did. -/
def countPrimeSpec : ChangeSpec := { name := "countPrime", fn := fun _ => fun
  | [d1, d2] => { results := [.lit (.bool true)], args := [d1, d2] }
  | _ => none }
def countPrimeRow : OpenClaim := { program := "ytmaplmgecohjbaa", sum := "5c5131a5e076a7624ef89a4c9de003adc09eb267b2a04cbe4d3068e98af5a845", func := "parterre/parterrelaw1.CountPrime", spec := "countPrime", unfollowed := true, recurses := true, plainKeys := false, apart := false }
def CountPrimeSaid : Prop := countPrimeRow.holds Try.pinned (OpenSpec.ofChange countPrimeSpec)

/-- ITS FALSE NEIGHBOUR: 'it returns false'. Refute it at one input. -/
def countPrimeWrong : ChangeSpec := { name := "countPrime", fn := fun _ => fun
  | [d1, d2] => { results := [.lit (.bool false)], args := [d1, d2] }
  | _ => none }
def CountPrimeWrongFalsely : Prop := countPrimeRow.holds Try.pinned (OpenSpec.ofChange countPrimeWrong)

/-- 'parterrelaw1.CountPolya': WHATEVER THE INPUT: true; the input reads as it did. -/
def countPolyaSpec : ChangeSpec := { name := "countPolya", fn := fun _ => fun
  | [d1, d2, d3] => { results := [.lit (.bool true)], args := [d1, d2, d3] }
  | _ => none }
def countPolyaRow : OpenClaim := { program := "ytmaplmgecohjbaa", sum := "5c5131a5e076a7624ef89a4c9de003adc09eb267b2a04cbe4d3068e98af5a845", func := "parterre/parterrelaw1.CountPolya", spec := "countPolya", unfollowed := true, recurses := true, plainKeys := false, apart := false }
def CountPolyaSaid : Prop := countPolyaRow.holds Try.pinned (OpenSpec.ofChange countPolyaSpec)

/-- ITS FALSE NEIGHBOUR: 'it returns false'. Refute it at one input. -/
def countPolyaWrong : ChangeSpec := { name := "countPolya", fn := fun _ => fun
  | [d1, d2, d3] => { results := [.lit (.bool false)], args := [d1, d2, d3] }
  | _ => none }
def CountPolyaWrongFalsely : Prop := countPolyaRow.holds Try.pinned (OpenSpec.ofChange countPolyaWrong)

/-- 'parterrelaw1.CountRound': WHATEVER THE INPUT: true; the input reads as it did. -/
def countRoundSpec : ChangeSpec := { name := "countRound", fn := fun _ => fun
  | [d1, d2] => { results := [.lit (.bool true)], args := [d1, d2] }
  | _ => none }
def countRoundRow : OpenClaim := { program := "ytmaplmgecohjbaa", sum := "5c5131a5e076a7624ef89a4c9de003adc09eb267b2a04cbe4d3068e98af5a845", func := "parterre/parterrelaw1.CountRound", spec := "countRound", unfollowed := true, recurses := true, plainKeys := false, apart := false }
def CountRoundSaid : Prop := countRoundRow.holds Try.pinned (OpenSpec.ofChange countRoundSpec)

/-- ITS FALSE NEIGHBOUR: 'it returns false'. Refute it at one input. -/
def countRoundWrong : ChangeSpec := { name := "countRound", fn := fun _ => fun
  | [d1, d2] => { results := [.lit (.bool false)], args := [d1, d2] }
  | _ => none }
def CountRoundWrongFalsely : Prop := countRoundRow.holds Try.pinned (OpenSpec.ofChange countRoundWrong)

/- THE SECOND FORM. 'bulk': how many values and letters a reading holds, each counted each time it is reached (what is shared counts as often as it is met; a slice's spare places count too). A statement '..UptoSaid' is the law's where the arguments, and the package variables that the reading takes, are together of bulk at most 1048576: NARROWER than '..Said'. Prove '..Said' where nothing that the law and all that it calls make is longer than what came in: it says more and counts as full. Else prove '..UptoSaid'. A law counts once. -/
mutual
def uptoBulk {H : Type} : DataW H → Nat
  | .lit (.string bytes) => bytes.length + 1
  | .lit _ => 1
  | .nil => 1
  | .ptr d => uptoBulk d + 1
  | .slice elems spare => uptoBulkAll elems + uptoBulkAll spare + 1
  | .agg parts => uptoBulkAll parts + 1
  | .iface _ d => uptoBulk d + 1
  | .map entries => uptoBulkEntries entries + 1
  | .held _ => 1
def uptoBulkAll {H : Type} : List (DataW H) → Nat
  | [] => 0
  | d :: r => uptoBulk d + uptoBulkAll r
def uptoBulkEntries {H : Type} : List (Lit × DataW H) → Nat
  | [] => 0
  | x :: r => uptoBulkEntry x + uptoBulkEntries r
def uptoBulkEntry {H : Type} : Lit × DataW H → Nat
  | (.string bytes, d) => bytes.length + uptoBulk d + 1
  | (_, d) => uptoBulk d + 1
 end
def uptoSmall : (H : Type) → List (DataW H) → Bool := fun _ ds => decide (uptoBulkAll ds ≤ 1048576)
def OpenSpec.upto (s : _root_.Go.ChangeSpec) : _root_.Go.OpenSpec := { _root_.Go.OpenSpec.ofChange s with cond := some uptoSmall }

/-- 'parterrelaw1.CountRings', WHERE WHAT IT READS IS OF BULK AT MOST 1048576: true; the input reads as it did. -/
def countRingsUptoRow : OpenClaim := { program := "ytmaplmgecohjbaa", sum := "5c5131a5e076a7624ef89a4c9de003adc09eb267b2a04cbe4d3068e98af5a845", func := "parterre/parterrelaw1.CountRings", spec := "countRings", unfollowed := true, recurses := true, plainKeys := false, apart := false, narrowed := true }
def CountRingsUptoSaid : Prop := countRingsUptoRow.holds Try.pinned (OpenSpec.upto countRingsSpec)

/-- 'parterrelaw1.CountColours', WHERE WHAT IT READS IS OF BULK AT MOST 1048576: true; the input reads as it did. -/
def countColoursUptoRow : OpenClaim := { program := "ytmaplmgecohjbaa", sum := "5c5131a5e076a7624ef89a4c9de003adc09eb267b2a04cbe4d3068e98af5a845", func := "parterre/parterrelaw1.CountColours", spec := "countColours", unfollowed := true, recurses := true, plainKeys := false, apart := false, narrowed := true }
def CountColoursUptoSaid : Prop := countColoursUptoRow.holds Try.pinned (OpenSpec.upto countColoursSpec)

/-- 'parterrelaw1.CountContent', WHERE WHAT IT READS IS OF BULK AT MOST 1048576: true; the input reads as it did. -/
def countContentUptoRow : OpenClaim := { program := "ytmaplmgecohjbaa", sum := "5c5131a5e076a7624ef89a4c9de003adc09eb267b2a04cbe4d3068e98af5a845", func := "parterre/parterrelaw1.CountContent", spec := "countContent", unfollowed := true, recurses := true, plainKeys := false, apart := false, narrowed := true }
def CountContentUptoSaid : Prop := countContentUptoRow.holds Try.pinned (OpenSpec.upto countContentSpec)

/-- 'parterrelaw1.CountPrime', WHERE WHAT IT READS IS OF BULK AT MOST 1048576: true; the input reads as it did. -/
def countPrimeUptoRow : OpenClaim := { program := "ytmaplmgecohjbaa", sum := "5c5131a5e076a7624ef89a4c9de003adc09eb267b2a04cbe4d3068e98af5a845", func := "parterre/parterrelaw1.CountPrime", spec := "countPrime", unfollowed := true, recurses := true, plainKeys := false, apart := false, narrowed := true }
def CountPrimeUptoSaid : Prop := countPrimeUptoRow.holds Try.pinned (OpenSpec.upto countPrimeSpec)

/-- 'parterrelaw1.CountPolya', WHERE WHAT IT READS IS OF BULK AT MOST 1048576: true; the input reads as it did. -/
def countPolyaUptoRow : OpenClaim := { program := "ytmaplmgecohjbaa", sum := "5c5131a5e076a7624ef89a4c9de003adc09eb267b2a04cbe4d3068e98af5a845", func := "parterre/parterrelaw1.CountPolya", spec := "countPolya", unfollowed := true, recurses := true, plainKeys := false, apart := false, narrowed := true }
def CountPolyaUptoSaid : Prop := countPolyaUptoRow.holds Try.pinned (OpenSpec.upto countPolyaSpec)

/-- 'parterrelaw1.CountRound', WHERE WHAT IT READS IS OF BULK AT MOST 1048576: true; the input reads as it did. -/
def countRoundUptoRow : OpenClaim := { program := "ytmaplmgecohjbaa", sum := "5c5131a5e076a7624ef89a4c9de003adc09eb267b2a04cbe4d3068e98af5a845", func := "parterre/parterrelaw1.CountRound", spec := "countRound", unfollowed := true, recurses := true, plainKeys := false, apart := false, narrowed := true }
def CountRoundUptoSaid : Prop := countRoundUptoRow.holds Try.pinned (OpenSpec.upto countRoundSpec)

end Rows
end Go.Proofs.Ytmaplmgecohjbaa
