/-
  No cell of these rows narrows 'for every input' (looked for: loops, veiled, ifaces, maps, wideKeys, modest, calm, conditions, laid).
  DERIVED. THE GIVEN ROWS OF THIS SEAT. 6 by the template 'for every input the law returns true; each argument reads behind the call as it read before'; 0 by the template 'total and deterministic' (their statements: YtnbkabggmomhlaaTotals.lean).
  GIVEN WITH THE SEED: the statements are not yours to turn. If you find one false, say at which input.
  Laid BY PROGRAM, IN A SANDBOX (cutbox-rows.mjs): the forced cells as the released guide's own fill.sh prints them over the translation 2317eb311970bbb1… (all of the seat's roots in one cut). By AI agents, Wed Nov 11 2026. No macro, syntax, notation, axiom, sorry.
-/
import Derived.Test.YtnbkabggmomhlaaChecked
import GoSem.Claim
import GoSem.ClaimJoined
import GoSem.ClaimMapViews
import Derived.JoinedTies
import Derived.KernelRfl
namespace Go.Proofs.Ytnbkabggmomhlaa
/- THE CELL 'sum', in the pinned program and in every row, IS THE sha256 OF THE DUMP (.gsa) THAT YtnbkabggmomhlaaProg.lean LOADS. Nothing in Lean hashes anything: it is a label: what it is worth is what the hold of that sum in a sandbox is worth. -/
noncomputable def Try.pinned : Pinned := { name := "ytnbkabggmomhlaa", sum := "2317eb311970bbb1c7c3cad5c35279e7286aa624ed5f6a3b672c36d960bc867c", checked := Try.checked }
namespace Rows
def none {H : Type} : Left H := { results := [], args := [] }

/-- 'parterrelaw1.GroupOrders': WHATEVER THE INPUT: true; the input reads as it did. -/
def groupOrdersSpec : ChangeSpec := { name := "groupOrders", fn := fun _ => fun
  | [d1, d2, d3, d4] => { results := [.lit (.bool true)], args := [d1, d2, d3, d4] }
  | _ => none }
def groupOrdersRow : OpenClaim := { program := "ytnbkabggmomhlaa", sum := "2317eb311970bbb1c7c3cad5c35279e7286aa624ed5f6a3b672c36d960bc867c", func := "parterre/parterrelaw1.GroupOrders", spec := "groupOrders", unfollowed := true, recurses := true, plainKeys := false, apart := false }
def GroupOrdersSaid : Prop := groupOrdersRow.holds Try.pinned (OpenSpec.ofChange groupOrdersSpec)

/-- ITS FALSE NEIGHBOUR: 'it returns false'. Refute it at one input. -/
def groupOrdersWrong : ChangeSpec := { name := "groupOrders", fn := fun _ => fun
  | [d1, d2, d3, d4] => { results := [.lit (.bool false)], args := [d1, d2, d3, d4] }
  | _ => none }
def GroupOrdersWrongFalsely : Prop := groupOrdersRow.holds Try.pinned (OpenSpec.ofChange groupOrdersWrong)

/-- 'parterrelaw1.GroupPoints': WHATEVER THE INPUT: true; the input reads as it did. -/
def groupPointsSpec : ChangeSpec := { name := "groupPoints", fn := fun _ => fun
  | [d1, d2] => { results := [.lit (.bool true)], args := [d1, d2] }
  | _ => none }
def groupPointsRow : OpenClaim := { program := "ytnbkabggmomhlaa", sum := "2317eb311970bbb1c7c3cad5c35279e7286aa624ed5f6a3b672c36d960bc867c", func := "parterre/parterrelaw1.GroupPoints", spec := "groupPoints", recurses := true, plainKeys := false, apart := false }
def GroupPointsSaid : Prop := groupPointsRow.holds Try.pinned (OpenSpec.ofChange groupPointsSpec)

/-- ITS FALSE NEIGHBOUR: 'it returns false'. Refute it at one input. -/
def groupPointsWrong : ChangeSpec := { name := "groupPoints", fn := fun _ => fun
  | [d1, d2] => { results := [.lit (.bool false)], args := [d1, d2] }
  | _ => none }
def GroupPointsWrongFalsely : Prop := groupPointsRow.holds Try.pinned (OpenSpec.ofChange groupPointsWrong)

/-- 'parterrelaw1.GroupParts': WHATEVER THE INPUT: true; the input reads as it did. -/
def groupPartsSpec : ChangeSpec := { name := "groupParts", fn := fun _ => fun
  | [d1, d2] => { results := [.lit (.bool true)], args := [d1, d2] }
  | _ => none }
def groupPartsRow : OpenClaim := { program := "ytnbkabggmomhlaa", sum := "2317eb311970bbb1c7c3cad5c35279e7286aa624ed5f6a3b672c36d960bc867c", func := "parterre/parterrelaw1.GroupParts", spec := "groupParts", plainKeys := false, apart := false }
def GroupPartsSaid : Prop := groupPartsRow.holds Try.pinned (OpenSpec.ofChange groupPartsSpec)

/-- ITS FALSE NEIGHBOUR: 'it returns false'. Refute it at one input. -/
def groupPartsWrong : ChangeSpec := { name := "groupParts", fn := fun _ => fun
  | [d1, d2] => { results := [.lit (.bool false)], args := [d1, d2] }
  | _ => none }
def GroupPartsWrongFalsely : Prop := groupPartsRow.holds Try.pinned (OpenSpec.ofChange groupPartsWrong)

/-- 'parterrelaw1.GroupDivides': WHATEVER THE INPUT: true; the input reads as it did. -/
def groupDividesSpec : ChangeSpec := { name := "groupDivides", fn := fun _ => fun
  | [d1, d2, d3] => { results := [.lit (.bool true)], args := [d1, d2, d3] }
  | _ => none }
def groupDividesRow : OpenClaim := { program := "ytnbkabggmomhlaa", sum := "2317eb311970bbb1c7c3cad5c35279e7286aa624ed5f6a3b672c36d960bc867c", func := "parterre/parterrelaw1.GroupDivides", spec := "groupDivides", plainKeys := false, apart := false }
def GroupDividesSaid : Prop := groupDividesRow.holds Try.pinned (OpenSpec.ofChange groupDividesSpec)

/-- ITS FALSE NEIGHBOUR: 'it returns false'. Refute it at one input. -/
def groupDividesWrong : ChangeSpec := { name := "groupDivides", fn := fun _ => fun
  | [d1, d2, d3] => { results := [.lit (.bool false)], args := [d1, d2, d3] }
  | _ => none }
def GroupDividesWrongFalsely : Prop := groupDividesRow.holds Try.pinned (OpenSpec.ofChange groupDividesWrong)

/-- 'parterrelaw1.GroupBurnside': WHATEVER THE INPUT: true; the input reads as it did. -/
def groupBurnsideSpec : ChangeSpec := { name := "groupBurnside", fn := fun _ => fun
  | [d1, d2] => { results := [.lit (.bool true)], args := [d1, d2] }
  | _ => none }
def groupBurnsideRow : OpenClaim := { program := "ytnbkabggmomhlaa", sum := "2317eb311970bbb1c7c3cad5c35279e7286aa624ed5f6a3b672c36d960bc867c", func := "parterre/parterrelaw1.GroupBurnside", spec := "groupBurnside", plainKeys := false, apart := false }
def GroupBurnsideSaid : Prop := groupBurnsideRow.holds Try.pinned (OpenSpec.ofChange groupBurnsideSpec)

/-- ITS FALSE NEIGHBOUR: 'it returns false'. Refute it at one input. -/
def groupBurnsideWrong : ChangeSpec := { name := "groupBurnside", fn := fun _ => fun
  | [d1, d2] => { results := [.lit (.bool false)], args := [d1, d2] }
  | _ => none }
def GroupBurnsideWrongFalsely : Prop := groupBurnsideRow.holds Try.pinned (OpenSpec.ofChange groupBurnsideWrong)

/-- 'parterrelaw1.GroupCloses': WHATEVER THE INPUT: true; the input reads as it did. -/
def groupClosesSpec : ChangeSpec := { name := "groupCloses", fn := fun _ => fun
  | [d1, d2, d3, d4] => { results := [.lit (.bool true)], args := [d1, d2, d3, d4] }
  | _ => none }
def groupClosesRow : OpenClaim := { program := "ytnbkabggmomhlaa", sum := "2317eb311970bbb1c7c3cad5c35279e7286aa624ed5f6a3b672c36d960bc867c", func := "parterre/parterrelaw1.GroupCloses", spec := "groupCloses", unfollowed := true, recurses := true, plainKeys := false, apart := false }
def GroupClosesSaid : Prop := groupClosesRow.holds Try.pinned (OpenSpec.ofChange groupClosesSpec)

/-- ITS FALSE NEIGHBOUR: 'it returns false'. Refute it at one input. -/
def groupClosesWrong : ChangeSpec := { name := "groupCloses", fn := fun _ => fun
  | [d1, d2, d3, d4] => { results := [.lit (.bool false)], args := [d1, d2, d3, d4] }
  | _ => none }
def GroupClosesWrongFalsely : Prop := groupClosesRow.holds Try.pinned (OpenSpec.ofChange groupClosesWrong)

/- THE SECOND FORM. 'bulk': how many values and letters a reading holds, each counted each time it is reached (what is shared counts as often as it is met; a slice's spare places count too). A statement '..UptoSaid' is the law's where the arguments, and the package variables that the reading takes, are together of bulk at most 1048576: NARROWER than '..Said'. Prove '..Said' where nothing that the law and all that it calls make is longer than what came in: it says more and counts as full. Else prove '..UptoSaid'. A law counts once. -/
mutual
def uptoBulk {H : Type} : DataW H → Nat
  | .lit (.string bytes) => bytes.length + 1
  | .lit _ => 1
  | .nil => 1
  | .ptr d => uptoBulk d + 1
  | .slice elems spare => uptoBulkAll elems + uptoBulkAll spare + 1
  | .agg parts => uptoBulkAll parts + 1
  | .iface _ d => uptoBulk d + 1
  | .map entries => uptoBulkEntries entries + 1
  | .held _ => 1
def uptoBulkAll {H : Type} : List (DataW H) → Nat
  | [] => 0
  | d :: r => uptoBulk d + uptoBulkAll r
def uptoBulkEntries {H : Type} : List (Lit × DataW H) → Nat
  | [] => 0
  | x :: r => uptoBulkEntry x + uptoBulkEntries r
def uptoBulkEntry {H : Type} : Lit × DataW H → Nat
  | (.string bytes, d) => bytes.length + uptoBulk d + 1
  | (_, d) => uptoBulk d + 1
 end
def uptoSmall : (H : Type) → List (DataW H) → Bool := fun _ ds => decide (uptoBulkAll ds ≤ 1048576)
def OpenSpec.upto (s : _root_.Go.ChangeSpec) : _root_.Go.OpenSpec := { _root_.Go.OpenSpec.ofChange s with cond := some uptoSmall }

/-- 'parterrelaw1.GroupOrders', WHERE WHAT IT READS IS OF BULK AT MOST 1048576: true; the input reads as it did. -/
def groupOrdersUptoRow : OpenClaim := { program := "ytnbkabggmomhlaa", sum := "2317eb311970bbb1c7c3cad5c35279e7286aa624ed5f6a3b672c36d960bc867c", func := "parterre/parterrelaw1.GroupOrders", spec := "groupOrders", unfollowed := true, recurses := true, plainKeys := false, apart := false, narrowed := true }
def GroupOrdersUptoSaid : Prop := groupOrdersUptoRow.holds Try.pinned (OpenSpec.upto groupOrdersSpec)

/-- 'parterrelaw1.GroupPoints', WHERE WHAT IT READS IS OF BULK AT MOST 1048576: true; the input reads as it did. -/
def groupPointsUptoRow : OpenClaim := { program := "ytnbkabggmomhlaa", sum := "2317eb311970bbb1c7c3cad5c35279e7286aa624ed5f6a3b672c36d960bc867c", func := "parterre/parterrelaw1.GroupPoints", spec := "groupPoints", recurses := true, plainKeys := false, apart := false, narrowed := true }
def GroupPointsUptoSaid : Prop := groupPointsUptoRow.holds Try.pinned (OpenSpec.upto groupPointsSpec)

/-- 'parterrelaw1.GroupParts', WHERE WHAT IT READS IS OF BULK AT MOST 1048576: true; the input reads as it did. -/
def groupPartsUptoRow : OpenClaim := { program := "ytnbkabggmomhlaa", sum := "2317eb311970bbb1c7c3cad5c35279e7286aa624ed5f6a3b672c36d960bc867c", func := "parterre/parterrelaw1.GroupParts", spec := "groupParts", plainKeys := false, apart := false, narrowed := true }
def GroupPartsUptoSaid : Prop := groupPartsUptoRow.holds Try.pinned (OpenSpec.upto groupPartsSpec)

/-- 'parterrelaw1.GroupDivides', WHERE WHAT IT READS IS OF BULK AT MOST 1048576: true; the input reads as it did. -/
def groupDividesUptoRow : OpenClaim := { program := "ytnbkabggmomhlaa", sum := "2317eb311970bbb1c7c3cad5c35279e7286aa624ed5f6a3b672c36d960bc867c", func := "parterre/parterrelaw1.GroupDivides", spec := "groupDivides", plainKeys := false, apart := false, narrowed := true }
def GroupDividesUptoSaid : Prop := groupDividesUptoRow.holds Try.pinned (OpenSpec.upto groupDividesSpec)

/-- 'parterrelaw1.GroupBurnside', WHERE WHAT IT READS IS OF BULK AT MOST 1048576: true; the input reads as it did. -/
def groupBurnsideUptoRow : OpenClaim := { program := "ytnbkabggmomhlaa", sum := "2317eb311970bbb1c7c3cad5c35279e7286aa624ed5f6a3b672c36d960bc867c", func := "parterre/parterrelaw1.GroupBurnside", spec := "groupBurnside", plainKeys := false, apart := false, narrowed := true }
def GroupBurnsideUptoSaid : Prop := groupBurnsideUptoRow.holds Try.pinned (OpenSpec.upto groupBurnsideSpec)

/-- 'parterrelaw1.GroupCloses', WHERE WHAT IT READS IS OF BULK AT MOST 1048576: true; the input reads as it did. -/
def groupClosesUptoRow : OpenClaim := { program := "ytnbkabggmomhlaa", sum := "2317eb311970bbb1c7c3cad5c35279e7286aa624ed5f6a3b672c36d960bc867c", func := "parterre/parterrelaw1.GroupCloses", spec := "groupCloses", unfollowed := true, recurses := true, plainKeys := false, apart := false, narrowed := true }
def GroupClosesUptoSaid : Prop := groupClosesUptoRow.holds Try.pinned (OpenSpec.upto groupClosesSpec)

end Rows
end Go.Proofs.Ytnbkabggmomhlaa
