/-
  No cell of these rows narrows 'for every input' (looked for: loops, veiled, ifaces, maps, wideKeys, modest, calm, conditions, laid).
  DERIVED. THE GIVEN ROWS OF THIS SEAT. 4 by the template 'for every input the law returns true; each argument reads behind the call as it read before'; 0 by the template 'total and deterministic' (their statements: YtamdpcajfgbagaaTotals.lean).
  GIVEN WITH THE SEED: the statements are not yours to turn. If you find one false, say at which input.
  Laid BY PROGRAM, IN A SANDBOX (cutbox-rows.mjs): the forced cells as the released guide's own fill.sh prints them over the translation ba7ef0fc398808eb… (all of the seat's roots in one cut). By AI agents, Wed Nov 11 2026. No macro, syntax, notation, axiom, sorry.
-/
import Derived.Test.YtamdpcajfgbagaaChecked
import GoSem.Claim
import GoSem.ClaimJoined
import GoSem.ClaimMapViews
import Derived.JoinedTies
import Derived.KernelRfl
namespace Go.Proofs.Ytamdpcajfgbagaa
/- THE CELL 'sum', in the pinned program and in every row, IS THE sha256 OF THE DUMP (.gsa) THAT YtamdpcajfgbagaaProg.lean LOADS. Nothing in Lean hashes anything: it is a label: what it is worth is what the hold of that sum in a sandbox is worth. -/
noncomputable def Try.pinned : Pinned := { name := "ytamdpcajfgbagaa", sum := "ba7ef0fc398808ebfb61562b905a6e16f361595ef7a6cbb5611af4cff1b0690a", checked := Try.checked }
namespace Rows
def none {H : Type} : Left H := { results := [], args := [] }

/-- 'parterrelaw3.HadaChecks': WHATEVER THE INPUT: true; the input reads as it did. -/
def hadaChecksSpec : ChangeSpec := { name := "hadaChecks", fn := fun _ => fun
  | [d] => { results := [.lit (.bool true)], args := [d] }
  | _ => none }
def hadaChecksRow : OpenClaim := { program := "ytamdpcajfgbagaa", sum := "ba7ef0fc398808ebfb61562b905a6e16f361595ef7a6cbb5611af4cff1b0690a", func := "parterre/parterrelaw3.HadaChecks", spec := "hadaChecks", unfollowed := true, recurses := true, apart := false }
def HadaChecksSaid : Prop := hadaChecksRow.holds Try.pinned (OpenSpec.ofChange hadaChecksSpec)

/-- ITS FALSE NEIGHBOUR: 'it returns false'. Refute it at one input. -/
def hadaChecksWrong : ChangeSpec := { name := "hadaChecks", fn := fun _ => fun
  | [d] => { results := [.lit (.bool false)], args := [d] }
  | _ => none }
def HadaChecksWrongFalsely : Prop := hadaChecksRow.holds Try.pinned (OpenSpec.ofChange hadaChecksWrong)

/-- 'parterrelaw3.HadaFour': WHATEVER THE INPUT: true; the input reads as it did. -/
def hadaFourSpec : ChangeSpec := { name := "hadaFour", fn := fun _ => fun
  | [d] => { results := [.lit (.bool true)], args := [d] }
  | _ => none }
def hadaFourRow : OpenClaim := { program := "ytamdpcajfgbagaa", sum := "ba7ef0fc398808ebfb61562b905a6e16f361595ef7a6cbb5611af4cff1b0690a", func := "parterre/parterrelaw3.HadaFour", spec := "hadaFour", unfollowed := true, recurses := true, apart := false }
def HadaFourSaid : Prop := hadaFourRow.holds Try.pinned (OpenSpec.ofChange hadaFourSpec)

/-- ITS FALSE NEIGHBOUR: 'it returns false'. Refute it at one input. -/
def hadaFourWrong : ChangeSpec := { name := "hadaFour", fn := fun _ => fun
  | [d] => { results := [.lit (.bool false)], args := [d] }
  | _ => none }
def HadaFourWrongFalsely : Prop := hadaFourRow.holds Try.pinned (OpenSpec.ofChange hadaFourWrong)

/-- 'parterrelaw3.HadaDesign': WHATEVER THE INPUT: true; the input reads as it did. -/
def hadaDesignSpec : ChangeSpec := { name := "hadaDesign", fn := fun _ => fun
  | [d] => { results := [.lit (.bool true)], args := [d] }
  | _ => none }
def hadaDesignRow : OpenClaim := { program := "ytamdpcajfgbagaa", sum := "ba7ef0fc398808ebfb61562b905a6e16f361595ef7a6cbb5611af4cff1b0690a", func := "parterre/parterrelaw3.HadaDesign", spec := "hadaDesign", unfollowed := true, recurses := true, apart := false }
def HadaDesignSaid : Prop := hadaDesignRow.holds Try.pinned (OpenSpec.ofChange hadaDesignSpec)

/-- ITS FALSE NEIGHBOUR: 'it returns false'. Refute it at one input. -/
def hadaDesignWrong : ChangeSpec := { name := "hadaDesign", fn := fun _ => fun
  | [d] => { results := [.lit (.bool false)], args := [d] }
  | _ => none }
def HadaDesignWrongFalsely : Prop := hadaDesignRow.holds Try.pinned (OpenSpec.ofChange hadaDesignWrong)

/-- 'parterrelaw3.HadaEven': WHATEVER THE INPUT: true; the input reads as it did. -/
def hadaEvenSpec : ChangeSpec := { name := "hadaEven", fn := fun _ => fun
  | [d] => { results := [.lit (.bool true)], args := [d] }
  | _ => none }
def hadaEvenRow : OpenClaim := { program := "ytamdpcajfgbagaa", sum := "ba7ef0fc398808ebfb61562b905a6e16f361595ef7a6cbb5611af4cff1b0690a", func := "parterre/parterrelaw3.HadaEven", spec := "hadaEven", unfollowed := true, recurses := true, apart := false }
def HadaEvenSaid : Prop := hadaEvenRow.holds Try.pinned (OpenSpec.ofChange hadaEvenSpec)

/-- ITS FALSE NEIGHBOUR: 'it returns false'. Refute it at one input. -/
def hadaEvenWrong : ChangeSpec := { name := "hadaEven", fn := fun _ => fun
  | [d] => { results := [.lit (.bool false)], args := [d] }
  | _ => none }
def HadaEvenWrongFalsely : Prop := hadaEvenRow.holds Try.pinned (OpenSpec.ofChange hadaEvenWrong)

/- THE SECOND FORM. 'bulk': how many values and letters a reading holds, each counted each time it is reached (what is shared counts as often as it is met; a slice's spare places count too). A statement '..UptoSaid' is the law's where the arguments, and the package variables that the reading takes, are together of bulk at most 1048576: NARROWER than '..Said'. Prove '..Said' where nothing that the law and all that it calls make is longer than what came in: it says more and counts as full. Else prove '..UptoSaid'. A law counts once. -/
mutual
def uptoBulk {H : Type} : DataW H → Nat
  | .lit (.string bytes) => bytes.length + 1
  | .lit _ => 1
  | .nil => 1
  | .ptr d => uptoBulk d + 1
  | .slice elems spare => uptoBulkAll elems + uptoBulkAll spare + 1
  | .agg parts => uptoBulkAll parts + 1
  | .iface _ d => uptoBulk d + 1
  | .map entries => uptoBulkEntries entries + 1
  | .held _ => 1
def uptoBulkAll {H : Type} : List (DataW H) → Nat
  | [] => 0
  | d :: r => uptoBulk d + uptoBulkAll r
def uptoBulkEntries {H : Type} : List (Lit × DataW H) → Nat
  | [] => 0
  | x :: r => uptoBulkEntry x + uptoBulkEntries r
def uptoBulkEntry {H : Type} : Lit × DataW H → Nat
  | (.string bytes, d) => bytes.length + uptoBulk d + 1
  | (_, d) => uptoBulk d + 1
 end
def uptoSmall : (H : Type) → List (DataW H) → Bool := fun _ ds => decide (uptoBulkAll ds ≤ 1048576)
def OpenSpec.upto (s : _root_.Go.ChangeSpec) : _root_.Go.OpenSpec := { _root_.Go.OpenSpec.ofChange s with cond := some uptoSmall }

/-- 'parterrelaw3.HadaChecks', WHERE WHAT IT READS IS OF BULK AT MOST 1048576: true; the input reads as it did. -/
def hadaChecksUptoRow : OpenClaim := { program := "ytamdpcajfgbagaa", sum := "ba7ef0fc398808ebfb61562b905a6e16f361595ef7a6cbb5611af4cff1b0690a", func := "parterre/parterrelaw3.HadaChecks", spec := "hadaChecks", unfollowed := true, recurses := true, apart := false, narrowed := true }
def HadaChecksUptoSaid : Prop := hadaChecksUptoRow.holds Try.pinned (OpenSpec.upto hadaChecksSpec)

/-- 'parterrelaw3.HadaFour', WHERE WHAT IT READS IS OF BULK AT MOST 1048576: true; the input reads as it did. -/
def hadaFourUptoRow : OpenClaim := { program := "ytamdpcajfgbagaa", sum := "ba7ef0fc398808ebfb61562b905a6e16f361595ef7a6cbb5611af4cff1b0690a", func := "parterre/parterrelaw3.HadaFour", spec := "hadaFour", unfollowed := true, recurses := true, apart := false, narrowed := true }
def HadaFourUptoSaid : Prop := hadaFourUptoRow.holds Try.pinned (OpenSpec.upto hadaFourSpec)

/-- 'parterrelaw3.HadaDesign', WHERE WHAT IT READS IS OF BULK AT MOST 1048576: true; the input reads as it did. -/
def hadaDesignUptoRow : OpenClaim := { program := "ytamdpcajfgbagaa", sum := "ba7ef0fc398808ebfb61562b905a6e16f361595ef7a6cbb5611af4cff1b0690a", func := "parterre/parterrelaw3.HadaDesign", spec := "hadaDesign", unfollowed := true, recurses := true, apart := false, narrowed := true }
def HadaDesignUptoSaid : Prop := hadaDesignUptoRow.holds Try.pinned (OpenSpec.upto hadaDesignSpec)

/-- 'parterrelaw3.HadaEven', WHERE WHAT IT READS IS OF BULK AT MOST 1048576: true; the input reads as it did. -/
def hadaEvenUptoRow : OpenClaim := { program := "ytamdpcajfgbagaa", sum := "ba7ef0fc398808ebfb61562b905a6e16f361595ef7a6cbb5611af4cff1b0690a", func := "parterre/parterrelaw3.HadaEven", spec := "hadaEven", unfollowed := true, recurses := true, apart := false, narrowed := true }
def HadaEvenUptoSaid : Prop := hadaEvenUptoRow.holds Try.pinned (OpenSpec.upto hadaEvenSpec)

end Rows
end Go.Proofs.Ytamdpcajfgbagaa
