/-
  NARROWER THAN 'FOR EVERY INPUT', by the rows' own cells (each row's printed sentence says how): RulerCostas: laid · RulerWelch: laid · RulerSidon: laid · RulerShort: laid.
  DERIVED. THE GIVEN ROWS OF THIS SEAT. 4 by the template 'for every input the law returns true; each argument reads behind the call as it read before'; 0 by the template 'total and deterministic' (their statements: YtmiinhbffiodmaaDoorTotals.lean).
  GIVEN WITH THE SEED: the statements are not yours to turn. If you find one false, say at which input.
  Laid BY PROGRAM, IN A SANDBOX (cutbox-rows.mjs): the forced cells as the released guide's own fill.sh prints them over the translation d884ece22adb8cdf… (all of the seat's roots in one cut). By AI agents, Wed Nov 11 2026. No macro, syntax, notation, axiom, sorry.
-/
import Derived.Test.YtmiinhbffiodmaaDoorChecked
import GoSem.Claim
import GoSem.ClaimJoined
import GoSem.ClaimMapViews
import Derived.JoinedTies
import Derived.KernelRfl
namespace Go.Proofs.YtmiinhbffiodmaaDoor
/- THE CELL 'sum', in the pinned program and in every row, IS THE sha256 OF THE DUMP (.gsa) THAT YtmiinhbffiodmaaDoorProg.lean LOADS. Nothing in Lean hashes anything: it is a label: what it is worth is what the hold of that sum in a sandbox is worth. -/
noncomputable def Tryd.pinned : Pinned := { name := "ytmiinhbffiodmaadoor", sum := "d884ece22adb8cdfcdbc7519acb2faac6de7959b8afbc6efcbe1d2a4fa324917", checked := Tryd.checked }
namespace Rows
def none {H : Type} : Left H := { results := [], args := [] }

/- WHAT THE LISTED PACKAGE-LEVEL VARIABLES READ AS WHEN THE CALL BEGINS. Each datum BY PROGRAM (the guide's laid-datum.mjs) off the statement by which the dump's own 'gosem.cut.vars' lays the variable. In a bare row this is a premise. The card (YtmiinhbffiodmaaDoorCards.lean) ties it to the program's text. -/
def laid_parterre_field_primes {H : Type} : DataW H := .agg [.lit (.int .i64 2), .lit (.int .i64 3), .lit (.int .i64 5), .lit (.int .i64 7), .lit (.int .i64 11), .lit (.int .i64 13), .lit (.int .i64 17), .lit (.int .i64 19), .lit (.int .i64 23), .lit (.int .i64 29), .lit (.int .i64 31), .lit (.int .i64 37), .lit (.int .i64 41), .lit (.int .i64 43), .lit (.int .i64 47), .lit (.int .i64 53), .lit (.int .i64 59), .lit (.int .i64 61)]

/-- 'parterrelaw2.RulerCostas': WHATEVER THE INPUT: true; the input reads as it did. -/
def rulerCostasSpec : ChangeSpec := { name := "rulerCostas", fn := fun _ => fun
  | [d1, d2, d3, d4] => { results := [.lit (.bool true)], args := [d1, d2, d3, d4] }
  | _ => none }
def rulerCostasRow : OpenClaim := { program := "ytmiinhbffiodmaadoor", sum := "d884ece22adb8cdfcdbc7519acb2faac6de7959b8afbc6efcbe1d2a4fa324917", func := "parterre/parterrelaw2.RulerCostas", spec := "rulerCostas", unfollowed := true, recurses := true, named := ["parterre/field.primes"], plainKeys := false, apart := false, laid := [("parterre/field.primes", laid_parterre_field_primes)] }
def RulerCostasSaid : Prop := rulerCostasRow.holds Tryd.pinned (OpenSpec.ofChange rulerCostasSpec)

/-- ITS FALSE NEIGHBOUR: 'it returns false'. Refute it at one input. -/
def rulerCostasWrong : ChangeSpec := { name := "rulerCostas", fn := fun _ => fun
  | [d1, d2, d3, d4] => { results := [.lit (.bool false)], args := [d1, d2, d3, d4] }
  | _ => none }
def RulerCostasWrongFalsely : Prop := rulerCostasRow.holds Tryd.pinned (OpenSpec.ofChange rulerCostasWrong)

/-- 'parterrelaw2.RulerWelch': WHATEVER THE INPUT: true; the input reads as it did. -/
def rulerWelchSpec : ChangeSpec := { name := "rulerWelch", fn := fun _ => fun
  | [d1, d2, d3] => { results := [.lit (.bool true)], args := [d1, d2, d3] }
  | _ => none }
def rulerWelchRow : OpenClaim := { program := "ytmiinhbffiodmaadoor", sum := "d884ece22adb8cdfcdbc7519acb2faac6de7959b8afbc6efcbe1d2a4fa324917", func := "parterre/parterrelaw2.RulerWelch", spec := "rulerWelch", unfollowed := true, recurses := true, named := ["parterre/field.primes"], plainKeys := false, apart := false, laid := [("parterre/field.primes", laid_parterre_field_primes)] }
def RulerWelchSaid : Prop := rulerWelchRow.holds Tryd.pinned (OpenSpec.ofChange rulerWelchSpec)

/-- ITS FALSE NEIGHBOUR: 'it returns false'. Refute it at one input. -/
def rulerWelchWrong : ChangeSpec := { name := "rulerWelch", fn := fun _ => fun
  | [d1, d2, d3] => { results := [.lit (.bool false)], args := [d1, d2, d3] }
  | _ => none }
def RulerWelchWrongFalsely : Prop := rulerWelchRow.holds Tryd.pinned (OpenSpec.ofChange rulerWelchWrong)

/-- 'parterrelaw2.RulerSidon': WHATEVER THE INPUT: true; the input reads as it did. -/
def rulerSidonSpec : ChangeSpec := { name := "rulerSidon", fn := fun _ => fun
  | [d1, d2] => { results := [.lit (.bool true)], args := [d1, d2] }
  | _ => none }
def rulerSidonRow : OpenClaim := { program := "ytmiinhbffiodmaadoor", sum := "d884ece22adb8cdfcdbc7519acb2faac6de7959b8afbc6efcbe1d2a4fa324917", func := "parterre/parterrelaw2.RulerSidon", spec := "rulerSidon", unfollowed := true, recurses := true, named := ["parterre/field.primes"], plainKeys := false, apart := false, laid := [("parterre/field.primes", laid_parterre_field_primes)] }
def RulerSidonSaid : Prop := rulerSidonRow.holds Tryd.pinned (OpenSpec.ofChange rulerSidonSpec)

/-- ITS FALSE NEIGHBOUR: 'it returns false'. Refute it at one input. -/
def rulerSidonWrong : ChangeSpec := { name := "rulerSidon", fn := fun _ => fun
  | [d1, d2] => { results := [.lit (.bool false)], args := [d1, d2] }
  | _ => none }
def RulerSidonWrongFalsely : Prop := rulerSidonRow.holds Tryd.pinned (OpenSpec.ofChange rulerSidonWrong)

/-- 'parterrelaw2.RulerShort': WHATEVER THE INPUT: true; the input reads as it did. -/
def rulerShortSpec : ChangeSpec := { name := "rulerShort", fn := fun _ => fun
  | [d] => { results := [.lit (.bool true)], args := [d] }
  | _ => none }
def rulerShortRow : OpenClaim := { program := "ytmiinhbffiodmaadoor", sum := "d884ece22adb8cdfcdbc7519acb2faac6de7959b8afbc6efcbe1d2a4fa324917", func := "parterre/parterrelaw2.RulerShort", spec := "rulerShort", unfollowed := true, recurses := true, named := ["parterre/field.primes"], plainKeys := false, apart := false, laid := [("parterre/field.primes", laid_parterre_field_primes)] }
def RulerShortSaid : Prop := rulerShortRow.holds Tryd.pinned (OpenSpec.ofChange rulerShortSpec)

/-- ITS FALSE NEIGHBOUR: 'it returns false'. Refute it at one input. -/
def rulerShortWrong : ChangeSpec := { name := "rulerShort", fn := fun _ => fun
  | [d] => { results := [.lit (.bool false)], args := [d] }
  | _ => none }
def RulerShortWrongFalsely : Prop := rulerShortRow.holds Tryd.pinned (OpenSpec.ofChange rulerShortWrong)

/- THE SECOND FORM. 'bulk': how many values and letters a reading holds, each counted each time it is reached (what is shared counts as often as it is met; a slice's spare places count too). A statement '..UptoSaid' is the law's where the arguments, and the package variables that the reading takes, are together of bulk at most 1048576: NARROWER than '..Said'. Prove '..Said' where nothing that the law and all that it calls make is longer than what came in: it says more and counts as full. Else prove '..UptoSaid'. A law counts once. -/
mutual
def uptoBulk {H : Type} : DataW H → Nat
  | .lit (.string bytes) => bytes.length + 1
  | .lit _ => 1
  | .nil => 1
  | .ptr d => uptoBulk d + 1
  | .slice elems spare => uptoBulkAll elems + uptoBulkAll spare + 1
  | .agg parts => uptoBulkAll parts + 1
  | .iface _ d => uptoBulk d + 1
  | .map entries => uptoBulkEntries entries + 1
  | .held _ => 1
def uptoBulkAll {H : Type} : List (DataW H) → Nat
  | [] => 0
  | d :: r => uptoBulk d + uptoBulkAll r
def uptoBulkEntries {H : Type} : List (Lit × DataW H) → Nat
  | [] => 0
  | x :: r => uptoBulkEntry x + uptoBulkEntries r
def uptoBulkEntry {H : Type} : Lit × DataW H → Nat
  | (.string bytes, d) => bytes.length + uptoBulk d + 1
  | (_, d) => uptoBulk d + 1
 end
def uptoSmall : (H : Type) → List (DataW H) → Bool := fun _ ds => decide (uptoBulkAll ds ≤ 1048576)
def OpenSpec.upto (s : _root_.Go.ChangeSpec) : _root_.Go.OpenSpec := { _root_.Go.OpenSpec.ofChange s with cond := some uptoSmall }

/-- 'parterrelaw2.RulerCostas', WHERE WHAT IT READS IS OF BULK AT MOST 1048576: true; the input reads as it did. -/
def rulerCostasUptoRow : OpenClaim := { program := "ytmiinhbffiodmaadoor", sum := "d884ece22adb8cdfcdbc7519acb2faac6de7959b8afbc6efcbe1d2a4fa324917", func := "parterre/parterrelaw2.RulerCostas", spec := "rulerCostas", unfollowed := true, recurses := true, named := ["parterre/field.primes"], plainKeys := false, apart := false, laid := [("parterre/field.primes", laid_parterre_field_primes)], narrowed := true }
def RulerCostasUptoSaid : Prop := rulerCostasUptoRow.holds Tryd.pinned (OpenSpec.upto rulerCostasSpec)

/-- 'parterrelaw2.RulerWelch', WHERE WHAT IT READS IS OF BULK AT MOST 1048576: true; the input reads as it did. -/
def rulerWelchUptoRow : OpenClaim := { program := "ytmiinhbffiodmaadoor", sum := "d884ece22adb8cdfcdbc7519acb2faac6de7959b8afbc6efcbe1d2a4fa324917", func := "parterre/parterrelaw2.RulerWelch", spec := "rulerWelch", unfollowed := true, recurses := true, named := ["parterre/field.primes"], plainKeys := false, apart := false, laid := [("parterre/field.primes", laid_parterre_field_primes)], narrowed := true }
def RulerWelchUptoSaid : Prop := rulerWelchUptoRow.holds Tryd.pinned (OpenSpec.upto rulerWelchSpec)

/-- 'parterrelaw2.RulerSidon', WHERE WHAT IT READS IS OF BULK AT MOST 1048576: true; the input reads as it did. -/
def rulerSidonUptoRow : OpenClaim := { program := "ytmiinhbffiodmaadoor", sum := "d884ece22adb8cdfcdbc7519acb2faac6de7959b8afbc6efcbe1d2a4fa324917", func := "parterre/parterrelaw2.RulerSidon", spec := "rulerSidon", unfollowed := true, recurses := true, named := ["parterre/field.primes"], plainKeys := false, apart := false, laid := [("parterre/field.primes", laid_parterre_field_primes)], narrowed := true }
def RulerSidonUptoSaid : Prop := rulerSidonUptoRow.holds Tryd.pinned (OpenSpec.upto rulerSidonSpec)

/-- 'parterrelaw2.RulerShort', WHERE WHAT IT READS IS OF BULK AT MOST 1048576: true; the input reads as it did. -/
def rulerShortUptoRow : OpenClaim := { program := "ytmiinhbffiodmaadoor", sum := "d884ece22adb8cdfcdbc7519acb2faac6de7959b8afbc6efcbe1d2a4fa324917", func := "parterre/parterrelaw2.RulerShort", spec := "rulerShort", unfollowed := true, recurses := true, named := ["parterre/field.primes"], plainKeys := false, apart := false, laid := [("parterre/field.primes", laid_parterre_field_primes)], narrowed := true }
def RulerShortUptoSaid : Prop := rulerShortUptoRow.holds Tryd.pinned (OpenSpec.upto rulerShortSpec)

end Rows
end Go.Proofs.YtmiinhbffiodmaaDoor
