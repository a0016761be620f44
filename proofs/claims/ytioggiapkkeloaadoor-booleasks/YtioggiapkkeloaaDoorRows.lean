/-
  NARROWER THAN 'FOR EVERY INPUT', by the rows' own cells (each row's printed sentence says how): BooleTables: laid · BooleAsks: laid · BooleTwice: laid · BooleParseval: laid · BooleRothaus: laid · BooleSiegenthaler: laid.
  DERIVED. THE GIVEN ROWS OF THIS SEAT. 6 by the template 'for every input the law returns true; each argument reads behind the call as it read before'; 0 by the template 'total and deterministic' (their statements: YtioggiapkkeloaaDoorTotals.lean).
  GIVEN WITH THE SEED: the statements are not yours to turn. If you find one false, say at which input.
  Laid BY PROGRAM, IN A SANDBOX (cutbox-rows.mjs): the forced cells as the released guide's own fill.sh prints them over the translation 0230d9e0e967d052… (all of the seat's roots in one cut). By AI agents, Wed Nov 11 2026. No macro, syntax, notation, axiom, sorry.
-/
import Derived.Test.YtioggiapkkeloaaDoorChecked
import GoSem.Claim
import GoSem.ClaimJoined
import GoSem.ClaimMapViews
import Derived.JoinedTies
import Derived.KernelRfl
namespace Go.Proofs.YtioggiapkkeloaaDoor
/- THE CELL 'sum', in the pinned program and in every row, IS THE sha256 OF THE DUMP (.gsa) THAT YtioggiapkkeloaaDoorProg.lean LOADS. Nothing in Lean hashes anything: it is a label: what it is worth is what the hold of that sum in a sandbox is worth. -/
noncomputable def Tryd.pinned : Pinned := { name := "ytioggiapkkeloaadoor", sum := "0230d9e0e967d052cbcfa14b65a278df211fc197de2cc5f4d0ea995974dbf6d0", checked := Tryd.checked }
namespace Rows
def none {H : Type} : Left H := { results := [], args := [] }

/- WHAT THE LISTED PACKAGE-LEVEL VARIABLES READ AS WHEN THE CALL BEGINS. Each datum BY PROGRAM (the guide's laid-datum.mjs) off the statement by which the dump's own 'gosem.cut.vars' lays the variable. In a bare row this is a premise. The card (YtioggiapkkeloaaDoorCards.lean) ties it to the program's text. -/
def laid_math_bits_deBruijn32tab {H : Type} : DataW H := .agg [.lit (.int .u8 0), .lit (.int .u8 1), .lit (.int .u8 28), .lit (.int .u8 2), .lit (.int .u8 29), .lit (.int .u8 14), .lit (.int .u8 24), .lit (.int .u8 3), .lit (.int .u8 30), .lit (.int .u8 22), .lit (.int .u8 20), .lit (.int .u8 15), .lit (.int .u8 25), .lit (.int .u8 17), .lit (.int .u8 4), .lit (.int .u8 8), .lit (.int .u8 31), .lit (.int .u8 27), .lit (.int .u8 13), .lit (.int .u8 23), .lit (.int .u8 21), .lit (.int .u8 19), .lit (.int .u8 16), .lit (.int .u8 7), .lit (.int .u8 26), .lit (.int .u8 12), .lit (.int .u8 18), .lit (.int .u8 6), .lit (.int .u8 11), .lit (.int .u8 5), .lit (.int .u8 10), .lit (.int .u8 9)]
def laid_math_bits_deBruijn64tab {H : Type} : DataW H := .agg [.lit (.int .u8 0), .lit (.int .u8 1), .lit (.int .u8 56), .lit (.int .u8 2), .lit (.int .u8 57), .lit (.int .u8 49), .lit (.int .u8 28), .lit (.int .u8 3), .lit (.int .u8 61), .lit (.int .u8 58), .lit (.int .u8 42), .lit (.int .u8 50), .lit (.int .u8 38), .lit (.int .u8 29), .lit (.int .u8 17), .lit (.int .u8 4), .lit (.int .u8 62), .lit (.int .u8 47), .lit (.int .u8 59), .lit (.int .u8 36), .lit (.int .u8 45), .lit (.int .u8 43), .lit (.int .u8 51), .lit (.int .u8 22), .lit (.int .u8 53), .lit (.int .u8 39), .lit (.int .u8 33), .lit (.int .u8 30), .lit (.int .u8 24), .lit (.int .u8 18), .lit (.int .u8 12), .lit (.int .u8 5), .lit (.int .u8 63), .lit (.int .u8 55), .lit (.int .u8 48), .lit (.int .u8 27), .lit (.int .u8 60), .lit (.int .u8 41), .lit (.int .u8 37), .lit (.int .u8 16), .lit (.int .u8 46), .lit (.int .u8 35), .lit (.int .u8 44), .lit (.int .u8 21), .lit (.int .u8 52), .lit (.int .u8 32), .lit (.int .u8 23), .lit (.int .u8 11), .lit (.int .u8 54), .lit (.int .u8 26), .lit (.int .u8 40), .lit (.int .u8 15), .lit (.int .u8 34), .lit (.int .u8 20), .lit (.int .u8 31), .lit (.int .u8 10), .lit (.int .u8 25), .lit (.int .u8 14), .lit (.int .u8 19), .lit (.int .u8 9), .lit (.int .u8 13), .lit (.int .u8 8), .lit (.int .u8 7), .lit (.int .u8 6)]

/-- 'parterrelaw3.BooleTables': WHATEVER THE INPUT: true; the input reads as it did. -/
def booleTablesSpec : ChangeSpec := { name := "booleTables", fn := fun _ => fun
  | [d] => { results := [.lit (.bool true)], args := [d] }
  | _ => none }
def booleTablesRow : OpenClaim := { program := "ytioggiapkkeloaadoor", sum := "0230d9e0e967d052cbcfa14b65a278df211fc197de2cc5f4d0ea995974dbf6d0", func := "parterre/parterrelaw3.BooleTables", spec := "booleTables", unfollowed := true, recurses := true, named := ["math/bits.deBruijn32tab", "math/bits.deBruijn64tab"], apart := false, laid := [("math/bits.deBruijn32tab", laid_math_bits_deBruijn32tab), ("math/bits.deBruijn64tab", laid_math_bits_deBruijn64tab)] }
def BooleTablesSaid : Prop := booleTablesRow.holds Tryd.pinned (OpenSpec.ofChange booleTablesSpec)

/-- ITS FALSE NEIGHBOUR: 'it returns false'. Refute it at one input. -/
def booleTablesWrong : ChangeSpec := { name := "booleTables", fn := fun _ => fun
  | [d] => { results := [.lit (.bool false)], args := [d] }
  | _ => none }
def BooleTablesWrongFalsely : Prop := booleTablesRow.holds Tryd.pinned (OpenSpec.ofChange booleTablesWrong)

/-- 'parterrelaw3.BooleAsks': WHATEVER THE INPUT: true; the input reads as it did. -/
def booleAsksSpec : ChangeSpec := { name := "booleAsks", fn := fun _ => fun
  | [d] => { results := [.lit (.bool true)], args := [d] }
  | _ => none }
def booleAsksRow : OpenClaim := { program := "ytioggiapkkeloaadoor", sum := "0230d9e0e967d052cbcfa14b65a278df211fc197de2cc5f4d0ea995974dbf6d0", func := "parterre/parterrelaw3.BooleAsks", spec := "booleAsks", unfollowed := true, recurses := true, named := ["math/bits.deBruijn32tab", "math/bits.deBruijn64tab"], apart := false, laid := [("math/bits.deBruijn32tab", laid_math_bits_deBruijn32tab), ("math/bits.deBruijn64tab", laid_math_bits_deBruijn64tab)] }
def BooleAsksSaid : Prop := booleAsksRow.holds Tryd.pinned (OpenSpec.ofChange booleAsksSpec)

/-- ITS FALSE NEIGHBOUR: 'it returns false'. Refute it at one input. -/
def booleAsksWrong : ChangeSpec := { name := "booleAsks", fn := fun _ => fun
  | [d] => { results := [.lit (.bool false)], args := [d] }
  | _ => none }
def BooleAsksWrongFalsely : Prop := booleAsksRow.holds Tryd.pinned (OpenSpec.ofChange booleAsksWrong)

/-- 'parterrelaw3.BooleTwice': WHATEVER THE INPUT: true; the input reads as it did. -/
def booleTwiceSpec : ChangeSpec := { name := "booleTwice", fn := fun _ => fun
  | [d] => { results := [.lit (.bool true)], args := [d] }
  | _ => none }
def booleTwiceRow : OpenClaim := { program := "ytioggiapkkeloaadoor", sum := "0230d9e0e967d052cbcfa14b65a278df211fc197de2cc5f4d0ea995974dbf6d0", func := "parterre/parterrelaw3.BooleTwice", spec := "booleTwice", unfollowed := true, recurses := true, named := ["math/bits.deBruijn32tab", "math/bits.deBruijn64tab"], apart := false, laid := [("math/bits.deBruijn32tab", laid_math_bits_deBruijn32tab), ("math/bits.deBruijn64tab", laid_math_bits_deBruijn64tab)] }
def BooleTwiceSaid : Prop := booleTwiceRow.holds Tryd.pinned (OpenSpec.ofChange booleTwiceSpec)

/-- ITS FALSE NEIGHBOUR: 'it returns false'. Refute it at one input. -/
def booleTwiceWrong : ChangeSpec := { name := "booleTwice", fn := fun _ => fun
  | [d] => { results := [.lit (.bool false)], args := [d] }
  | _ => none }
def BooleTwiceWrongFalsely : Prop := booleTwiceRow.holds Tryd.pinned (OpenSpec.ofChange booleTwiceWrong)

/-- 'parterrelaw3.BooleParseval': WHATEVER THE INPUT: true; the input reads as it did. -/
def booleParsevalSpec : ChangeSpec := { name := "booleParseval", fn := fun _ => fun
  | [d] => { results := [.lit (.bool true)], args := [d] }
  | _ => none }
def booleParsevalRow : OpenClaim := { program := "ytioggiapkkeloaadoor", sum := "0230d9e0e967d052cbcfa14b65a278df211fc197de2cc5f4d0ea995974dbf6d0", func := "parterre/parterrelaw3.BooleParseval", spec := "booleParseval", unfollowed := true, recurses := true, named := ["math/bits.deBruijn32tab", "math/bits.deBruijn64tab"], apart := false, laid := [("math/bits.deBruijn32tab", laid_math_bits_deBruijn32tab), ("math/bits.deBruijn64tab", laid_math_bits_deBruijn64tab)] }
def BooleParsevalSaid : Prop := booleParsevalRow.holds Tryd.pinned (OpenSpec.ofChange booleParsevalSpec)

/-- ITS FALSE NEIGHBOUR: 'it returns false'. Refute it at one input. -/
def booleParsevalWrong : ChangeSpec := { name := "booleParseval", fn := fun _ => fun
  | [d] => { results := [.lit (.bool false)], args := [d] }
  | _ => none }
def BooleParsevalWrongFalsely : Prop := booleParsevalRow.holds Tryd.pinned (OpenSpec.ofChange booleParsevalWrong)

/-- 'parterrelaw3.BooleRothaus': WHATEVER THE INPUT: true; the input reads as it did. -/
def booleRothausSpec : ChangeSpec := { name := "booleRothaus", fn := fun _ => fun
  | [d] => { results := [.lit (.bool true)], args := [d] }
  | _ => none }
def booleRothausRow : OpenClaim := { program := "ytioggiapkkeloaadoor", sum := "0230d9e0e967d052cbcfa14b65a278df211fc197de2cc5f4d0ea995974dbf6d0", func := "parterre/parterrelaw3.BooleRothaus", spec := "booleRothaus", unfollowed := true, recurses := true, named := ["math/bits.deBruijn32tab", "math/bits.deBruijn64tab"], apart := false, laid := [("math/bits.deBruijn32tab", laid_math_bits_deBruijn32tab), ("math/bits.deBruijn64tab", laid_math_bits_deBruijn64tab)] }
def BooleRothausSaid : Prop := booleRothausRow.holds Tryd.pinned (OpenSpec.ofChange booleRothausSpec)

/-- ITS FALSE NEIGHBOUR: 'it returns false'. Refute it at one input. -/
def booleRothausWrong : ChangeSpec := { name := "booleRothaus", fn := fun _ => fun
  | [d] => { results := [.lit (.bool false)], args := [d] }
  | _ => none }
def BooleRothausWrongFalsely : Prop := booleRothausRow.holds Tryd.pinned (OpenSpec.ofChange booleRothausWrong)

/-- 'parterrelaw3.BooleSiegenthaler': WHATEVER THE INPUT: true; the input reads as it did. -/
def booleSiegenthalerSpec : ChangeSpec := { name := "booleSiegenthaler", fn := fun _ => fun
  | [d] => { results := [.lit (.bool true)], args := [d] }
  | _ => none }
def booleSiegenthalerRow : OpenClaim := { program := "ytioggiapkkeloaadoor", sum := "0230d9e0e967d052cbcfa14b65a278df211fc197de2cc5f4d0ea995974dbf6d0", func := "parterre/parterrelaw3.BooleSiegenthaler", spec := "booleSiegenthaler", unfollowed := true, recurses := true, named := ["math/bits.deBruijn32tab", "math/bits.deBruijn64tab"], apart := false, laid := [("math/bits.deBruijn32tab", laid_math_bits_deBruijn32tab), ("math/bits.deBruijn64tab", laid_math_bits_deBruijn64tab)] }
def BooleSiegenthalerSaid : Prop := booleSiegenthalerRow.holds Tryd.pinned (OpenSpec.ofChange booleSiegenthalerSpec)

/-- ITS FALSE NEIGHBOUR: 'it returns false'. Refute it at one input. -/
def booleSiegenthalerWrong : ChangeSpec := { name := "booleSiegenthaler", fn := fun _ => fun
  | [d] => { results := [.lit (.bool false)], args := [d] }
  | _ => none }
def BooleSiegenthalerWrongFalsely : Prop := booleSiegenthalerRow.holds Tryd.pinned (OpenSpec.ofChange booleSiegenthalerWrong)

/- THE SECOND FORM. 'bulk': how many values and letters a reading holds, each counted each time it is reached (what is shared counts as often as it is met; a slice's spare places count too). A statement '..UptoSaid' is the law's where the arguments, and the package variables that the reading takes, are together of bulk at most 1048576: NARROWER than '..Said'. Prove '..Said' where nothing that the law and all that it calls make is longer than what came in: it says more and counts as full. Else prove '..UptoSaid'. A law counts once. -/
mutual
def uptoBulk {H : Type} : DataW H → Nat
  | .lit (.string bytes) => bytes.length + 1
  | .lit _ => 1
  | .nil => 1
  | .ptr d => uptoBulk d + 1
  | .slice elems spare => uptoBulkAll elems + uptoBulkAll spare + 1
  | .agg parts => uptoBulkAll parts + 1
  | .iface _ d => uptoBulk d + 1
  | .map entries => uptoBulkEntries entries + 1
  | .held _ => 1
def uptoBulkAll {H : Type} : List (DataW H) → Nat
  | [] => 0
  | d :: r => uptoBulk d + uptoBulkAll r
def uptoBulkEntries {H : Type} : List (Lit × DataW H) → Nat
  | [] => 0
  | x :: r => uptoBulkEntry x + uptoBulkEntries r
def uptoBulkEntry {H : Type} : Lit × DataW H → Nat
  | (.string bytes, d) => bytes.length + uptoBulk d + 1
  | (_, d) => uptoBulk d + 1
 end
def uptoSmall : (H : Type) → List (DataW H) → Bool := fun _ ds => decide (uptoBulkAll ds ≤ 1048576)
def OpenSpec.upto (s : _root_.Go.ChangeSpec) : _root_.Go.OpenSpec := { _root_.Go.OpenSpec.ofChange s with cond := some uptoSmall }

/-- 'parterrelaw3.BooleTables', WHERE WHAT IT READS IS OF BULK AT MOST 1048576: true; the input reads as it did. -/
def booleTablesUptoRow : OpenClaim := { program := "ytioggiapkkeloaadoor", sum := "0230d9e0e967d052cbcfa14b65a278df211fc197de2cc5f4d0ea995974dbf6d0", func := "parterre/parterrelaw3.BooleTables", spec := "booleTables", unfollowed := true, recurses := true, named := ["math/bits.deBruijn32tab", "math/bits.deBruijn64tab"], apart := false, laid := [("math/bits.deBruijn32tab", laid_math_bits_deBruijn32tab), ("math/bits.deBruijn64tab", laid_math_bits_deBruijn64tab)], narrowed := true }
def BooleTablesUptoSaid : Prop := booleTablesUptoRow.holds Tryd.pinned (OpenSpec.upto booleTablesSpec)

/-- 'parterrelaw3.BooleAsks', WHERE WHAT IT READS IS OF BULK AT MOST 1048576: true; the input reads as it did. -/
def booleAsksUptoRow : OpenClaim := { program := "ytioggiapkkeloaadoor", sum := "0230d9e0e967d052cbcfa14b65a278df211fc197de2cc5f4d0ea995974dbf6d0", func := "parterre/parterrelaw3.BooleAsks", spec := "booleAsks", unfollowed := true, recurses := true, named := ["math/bits.deBruijn32tab", "math/bits.deBruijn64tab"], apart := false, laid := [("math/bits.deBruijn32tab", laid_math_bits_deBruijn32tab), ("math/bits.deBruijn64tab", laid_math_bits_deBruijn64tab)], narrowed := true }
def BooleAsksUptoSaid : Prop := booleAsksUptoRow.holds Tryd.pinned (OpenSpec.upto booleAsksSpec)

/-- 'parterrelaw3.BooleTwice', WHERE WHAT IT READS IS OF BULK AT MOST 1048576: true; the input reads as it did. -/
def booleTwiceUptoRow : OpenClaim := { program := "ytioggiapkkeloaadoor", sum := "0230d9e0e967d052cbcfa14b65a278df211fc197de2cc5f4d0ea995974dbf6d0", func := "parterre/parterrelaw3.BooleTwice", spec := "booleTwice", unfollowed := true, recurses := true, named := ["math/bits.deBruijn32tab", "math/bits.deBruijn64tab"], apart := false, laid := [("math/bits.deBruijn32tab", laid_math_bits_deBruijn32tab), ("math/bits.deBruijn64tab", laid_math_bits_deBruijn64tab)], narrowed := true }
def BooleTwiceUptoSaid : Prop := booleTwiceUptoRow.holds Tryd.pinned (OpenSpec.upto booleTwiceSpec)

/-- 'parterrelaw3.BooleParseval', WHERE WHAT IT READS IS OF BULK AT MOST 1048576: true; the input reads as it did. -/
def booleParsevalUptoRow : OpenClaim := { program := "ytioggiapkkeloaadoor", sum := "0230d9e0e967d052cbcfa14b65a278df211fc197de2cc5f4d0ea995974dbf6d0", func := "parterre/parterrelaw3.BooleParseval", spec := "booleParseval", unfollowed := true, recurses := true, named := ["math/bits.deBruijn32tab", "math/bits.deBruijn64tab"], apart := false, laid := [("math/bits.deBruijn32tab", laid_math_bits_deBruijn32tab), ("math/bits.deBruijn64tab", laid_math_bits_deBruijn64tab)], narrowed := true }
def BooleParsevalUptoSaid : Prop := booleParsevalUptoRow.holds Tryd.pinned (OpenSpec.upto booleParsevalSpec)

/-- 'parterrelaw3.BooleRothaus', WHERE WHAT IT READS IS OF BULK AT MOST 1048576: true; the input reads as it did. -/
def booleRothausUptoRow : OpenClaim := { program := "ytioggiapkkeloaadoor", sum := "0230d9e0e967d052cbcfa14b65a278df211fc197de2cc5f4d0ea995974dbf6d0", func := "parterre/parterrelaw3.BooleRothaus", spec := "booleRothaus", unfollowed := true, recurses := true, named := ["math/bits.deBruijn32tab", "math/bits.deBruijn64tab"], apart := false, laid := [("math/bits.deBruijn32tab", laid_math_bits_deBruijn32tab), ("math/bits.deBruijn64tab", laid_math_bits_deBruijn64tab)], narrowed := true }
def BooleRothausUptoSaid : Prop := booleRothausUptoRow.holds Tryd.pinned (OpenSpec.upto booleRothausSpec)

/-- 'parterrelaw3.BooleSiegenthaler', WHERE WHAT IT READS IS OF BULK AT MOST 1048576: true; the input reads as it did. -/
def booleSiegenthalerUptoRow : OpenClaim := { program := "ytioggiapkkeloaadoor", sum := "0230d9e0e967d052cbcfa14b65a278df211fc197de2cc5f4d0ea995974dbf6d0", func := "parterre/parterrelaw3.BooleSiegenthaler", spec := "booleSiegenthaler", unfollowed := true, recurses := true, named := ["math/bits.deBruijn32tab", "math/bits.deBruijn64tab"], apart := false, laid := [("math/bits.deBruijn32tab", laid_math_bits_deBruijn32tab), ("math/bits.deBruijn64tab", laid_math_bits_deBruijn64tab)], narrowed := true }
def BooleSiegenthalerUptoSaid : Prop := booleSiegenthalerUptoRow.holds Tryd.pinned (OpenSpec.upto booleSiegenthalerSpec)

end Rows
end Go.Proofs.YtioggiapkkeloaaDoor
