/-
  NARROWER THAN 'FOR EVERY INPUT', by the rows' own cells (each row's printed sentence says how): LatinChecks: laid · LatinMakes: laid.
  DERIVED. THE GIVEN ROWS OF THIS SEAT. 2 by the template 'for every input the law returns true; each argument reads behind the call as it read before'; 0 by the template 'total and deterministic' (their statements: YtagpbkcnjogbgaaDoorTotals.lean).
  GIVEN WITH THE SEED: the statements are not yours to turn. If you find one false, say at which input.
  Laid BY PROGRAM, IN A SANDBOX (cutbox-rows.mjs): the forced cells as the released guide's own fill.sh prints them over the translation 9a082a4d5ed3cdb4… (all of the seat's roots in one cut). By AI agents, Wed Nov 11 2026. No macro, syntax, notation, axiom, sorry.
-/
import Derived.Test.YtagpbkcnjogbgaaDoorChecked
import GoSem.Claim
import GoSem.ClaimJoined
import GoSem.ClaimMapViews
import Derived.JoinedTies
import Derived.KernelRfl
namespace Go.Proofs.YtagpbkcnjogbgaaDoor
/- THE CELL 'sum', in the pinned program and in every row, IS THE sha256 OF THE DUMP (.gsa) THAT YtagpbkcnjogbgaaDoorProg.lean LOADS. Nothing in Lean hashes anything: it is a label: what it is worth is what the hold of that sum in a sandbox is worth. -/
noncomputable def Tryd.pinned : Pinned := { name := "ytagpbkcnjogbgaadoor", sum := "9a082a4d5ed3cdb4b3c76bf65a9af8d8230cf3276e2e22ae36ae12809560e7d8", checked := Tryd.checked }
namespace Rows
def none {H : Type} : Left H := { results := [], args := [] }

/- WHAT THE LISTED PACKAGE-LEVEL VARIABLES READ AS WHEN THE CALL BEGINS. Each datum BY PROGRAM (the guide's laid-datum.mjs) off the statement by which the dump's own 'gosem.cut.vars' lays the variable. In a bare row this is a premise. The card (YtagpbkcnjogbgaaDoorCards.lean) ties it to the program's text. -/
def laid_parterre_latin_orders {H : Type} : DataW H := .agg [.agg [.lit (.int .i64 0), .lit (.int .i64 1), .lit (.int .i64 2)], .agg [.lit (.int .i64 0), .lit (.int .i64 2), .lit (.int .i64 1)], .agg [.lit (.int .i64 1), .lit (.int .i64 0), .lit (.int .i64 2)], .agg [.lit (.int .i64 1), .lit (.int .i64 2), .lit (.int .i64 0)], .agg [.lit (.int .i64 2), .lit (.int .i64 0), .lit (.int .i64 1)], .agg [.lit (.int .i64 2), .lit (.int .i64 1), .lit (.int .i64 0)]]
def laid_parterre_field_primes {H : Type} : DataW H := .agg [.lit (.int .i64 2), .lit (.int .i64 3), .lit (.int .i64 5), .lit (.int .i64 7), .lit (.int .i64 11), .lit (.int .i64 13), .lit (.int .i64 17), .lit (.int .i64 19), .lit (.int .i64 23), .lit (.int .i64 29), .lit (.int .i64 31), .lit (.int .i64 37), .lit (.int .i64 41), .lit (.int .i64 43), .lit (.int .i64 47), .lit (.int .i64 53), .lit (.int .i64 59), .lit (.int .i64 61)]

/-- 'parterrelaw2.LatinChecks': WHATEVER THE INPUT: true; the input reads as it did. -/
def latinChecksSpec : ChangeSpec := { name := "latinChecks", fn := fun _ => fun
  | [d1, d2] => { results := [.lit (.bool true)], args := [d1, d2] }
  | _ => none }
def latinChecksRow : OpenClaim := { program := "ytagpbkcnjogbgaadoor", sum := "9a082a4d5ed3cdb4b3c76bf65a9af8d8230cf3276e2e22ae36ae12809560e7d8", func := "parterre/parterrelaw2.LatinChecks", spec := "latinChecks", unfollowed := true, recurses := true, named := ["parterre/latin.orders"], apart := false, laid := [("parterre/latin.orders", laid_parterre_latin_orders)] }
def LatinChecksSaid : Prop := latinChecksRow.holds Tryd.pinned (OpenSpec.ofChange latinChecksSpec)

/-- ITS FALSE NEIGHBOUR: 'it returns false'. Refute it at one input. -/
def latinChecksWrong : ChangeSpec := { name := "latinChecks", fn := fun _ => fun
  | [d1, d2] => { results := [.lit (.bool false)], args := [d1, d2] }
  | _ => none }
def LatinChecksWrongFalsely : Prop := latinChecksRow.holds Tryd.pinned (OpenSpec.ofChange latinChecksWrong)

/-- 'parterrelaw2.LatinMakes': WHATEVER THE INPUT: true; the input reads as it did. -/
def latinMakesSpec : ChangeSpec := { name := "latinMakes", fn := fun _ => fun
  | [d1, d2, d3] => { results := [.lit (.bool true)], args := [d1, d2, d3] }
  | _ => none }
def latinMakesRow : OpenClaim := { program := "ytagpbkcnjogbgaadoor", sum := "9a082a4d5ed3cdb4b3c76bf65a9af8d8230cf3276e2e22ae36ae12809560e7d8", func := "parterre/parterrelaw2.LatinMakes", spec := "latinMakes", unfollowed := true, recurses := true, named := ["parterre/field.primes"], apart := false, laid := [("parterre/field.primes", laid_parterre_field_primes)] }
def LatinMakesSaid : Prop := latinMakesRow.holds Tryd.pinned (OpenSpec.ofChange latinMakesSpec)

/-- ITS FALSE NEIGHBOUR: 'it returns false'. Refute it at one input. -/
def latinMakesWrong : ChangeSpec := { name := "latinMakes", fn := fun _ => fun
  | [d1, d2, d3] => { results := [.lit (.bool false)], args := [d1, d2, d3] }
  | _ => none }
def LatinMakesWrongFalsely : Prop := latinMakesRow.holds Tryd.pinned (OpenSpec.ofChange latinMakesWrong)

/- THE SECOND FORM. 'bulk': how many values and letters a reading holds, each counted each time it is reached (what is shared counts as often as it is met; a slice's spare places count too). A statement '..UptoSaid' is the law's where the arguments, and the package variables that the reading takes, are together of bulk at most 1048576: NARROWER than '..Said'. Prove '..Said' where nothing that the law and all that it calls make is longer than what came in: it says more and counts as full. Else prove '..UptoSaid'. A law counts once. -/
mutual
def uptoBulk {H : Type} : DataW H → Nat
  | .lit (.string bytes) => bytes.length + 1
  | .lit _ => 1
  | .nil => 1
  | .ptr d => uptoBulk d + 1
  | .slice elems spare => uptoBulkAll elems + uptoBulkAll spare + 1
  | .agg parts => uptoBulkAll parts + 1
  | .iface _ d => uptoBulk d + 1
  | .map entries => uptoBulkEntries entries + 1
  | .held _ => 1
def uptoBulkAll {H : Type} : List (DataW H) → Nat
  | [] => 0
  | d :: r => uptoBulk d + uptoBulkAll r
def uptoBulkEntries {H : Type} : List (Lit × DataW H) → Nat
  | [] => 0
  | x :: r => uptoBulkEntry x + uptoBulkEntries r
def uptoBulkEntry {H : Type} : Lit × DataW H → Nat
  | (.string bytes, d) => bytes.length + uptoBulk d + 1
  | (_, d) => uptoBulk d + 1
 end
def uptoSmall : (H : Type) → List (DataW H) → Bool := fun _ ds => decide (uptoBulkAll ds ≤ 1048576)
def OpenSpec.upto (s : _root_.Go.ChangeSpec) : _root_.Go.OpenSpec := { _root_.Go.OpenSpec.ofChange s with cond := some uptoSmall }

/-- 'parterrelaw2.LatinChecks', WHERE WHAT IT READS IS OF BULK AT MOST 1048576: true; the input reads as it did. -/
def latinChecksUptoRow : OpenClaim := { program := "ytagpbkcnjogbgaadoor", sum := "9a082a4d5ed3cdb4b3c76bf65a9af8d8230cf3276e2e22ae36ae12809560e7d8", func := "parterre/parterrelaw2.LatinChecks", spec := "latinChecks", unfollowed := true, recurses := true, named := ["parterre/latin.orders"], apart := false, laid := [("parterre/latin.orders", laid_parterre_latin_orders)], narrowed := true }
def LatinChecksUptoSaid : Prop := latinChecksUptoRow.holds Tryd.pinned (OpenSpec.upto latinChecksSpec)

/-- 'parterrelaw2.LatinMakes', WHERE WHAT IT READS IS OF BULK AT MOST 1048576: true; the input reads as it did. -/
def latinMakesUptoRow : OpenClaim := { program := "ytagpbkcnjogbgaadoor", sum := "9a082a4d5ed3cdb4b3c76bf65a9af8d8230cf3276e2e22ae36ae12809560e7d8", func := "parterre/parterrelaw2.LatinMakes", spec := "latinMakes", unfollowed := true, recurses := true, named := ["parterre/field.primes"], apart := false, laid := [("parterre/field.primes", laid_parterre_field_primes)], narrowed := true }
def LatinMakesUptoSaid : Prop := latinMakesUptoRow.holds Tryd.pinned (OpenSpec.upto latinMakesSpec)

end Rows
end Go.Proofs.YtagpbkcnjogbgaaDoor
