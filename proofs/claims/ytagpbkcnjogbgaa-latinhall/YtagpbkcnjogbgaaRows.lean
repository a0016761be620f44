/-
  No cell of these rows narrows 'for every input' (looked for: loops, veiled, ifaces, maps, wideKeys, modest, calm, conditions, laid).
  DERIVED. THE GIVEN ROWS OF THIS SEAT. 4 by the template 'for every input the law returns true; each argument reads behind the call as it read before'; 0 by the template 'total and deterministic' (their statements: YtagpbkcnjogbgaaTotals.lean).
  GIVEN WITH THE SEED: the statements are not yours to turn. If you find one false, say at which input.
  Laid BY PROGRAM, IN A SANDBOX (cutbox-rows.mjs): the forced cells as the released guide's own fill.sh prints them over the translation e0d7ae8d5f558540… (all of the seat's roots in one cut). By AI agents, Wed Nov 11 2026. No macro, syntax, notation, axiom, sorry.
-/
import Derived.Test.YtagpbkcnjogbgaaChecked
import GoSem.Claim
import GoSem.ClaimJoined
import GoSem.ClaimMapViews
import Derived.JoinedTies
import Derived.KernelRfl
namespace Go.Proofs.Ytagpbkcnjogbgaa
/- THE CELL 'sum', in the pinned program and in every row, IS THE sha256 OF THE DUMP (.gsa) THAT YtagpbkcnjogbgaaProg.lean LOADS. Nothing in Lean hashes anything: it is a label: what it is worth is what the hold of that sum in a sandbox is worth. -/
noncomputable def Try.pinned : Pinned := { name := "ytagpbkcnjogbgaa", sum := "e0d7ae8d5f558540b2eb68951aa83be4e20cba53e997742c415f339c41a70c44", checked := Try.checked }
namespace Rows
def none {H : Type} : Left H := { results := [], args := [] }

/-- 'parterrelaw2.LatinPairs': WHATEVER THE INPUT: true; the input reads as it did. -/
def latinPairsSpec : ChangeSpec := { name := "latinPairs", fn := fun _ => fun
  | [d1, d2] => { results := [.lit (.bool true)], args := [d1, d2] }
  | _ => none }
def latinPairsRow : OpenClaim := { program := "ytagpbkcnjogbgaa", sum := "e0d7ae8d5f558540b2eb68951aa83be4e20cba53e997742c415f339c41a70c44", func := "parterre/parterrelaw2.LatinPairs", spec := "latinPairs", unfollowed := true, recurses := true, apart := false }
def LatinPairsSaid : Prop := latinPairsRow.holds Try.pinned (OpenSpec.ofChange latinPairsSpec)

/-- ITS FALSE NEIGHBOUR: 'it returns false'. Refute it at one input. -/
def latinPairsWrong : ChangeSpec := { name := "latinPairs", fn := fun _ => fun
  | [d1, d2] => { results := [.lit (.bool false)], args := [d1, d2] }
  | _ => none }
def LatinPairsWrongFalsely : Prop := latinPairsRow.holds Try.pinned (OpenSpec.ofChange latinPairsWrong)

/-- 'parterrelaw2.LatinCounts': WHATEVER THE INPUT: true; the input reads as it did. -/
def latinCountsSpec : ChangeSpec := { name := "latinCounts", fn := fun _ => fun
  | [d] => { results := [.lit (.bool true)], args := [d] }
  | _ => none }
def latinCountsRow : OpenClaim := { program := "ytagpbkcnjogbgaa", sum := "e0d7ae8d5f558540b2eb68951aa83be4e20cba53e997742c415f339c41a70c44", func := "parterre/parterrelaw2.LatinCounts", spec := "latinCounts", unfollowed := true, recurses := true, apart := false }
def LatinCountsSaid : Prop := latinCountsRow.holds Try.pinned (OpenSpec.ofChange latinCountsSpec)

/-- ITS FALSE NEIGHBOUR: 'it returns false'. Refute it at one input. -/
def latinCountsWrong : ChangeSpec := { name := "latinCounts", fn := fun _ => fun
  | [d] => { results := [.lit (.bool false)], args := [d] }
  | _ => none }
def LatinCountsWrongFalsely : Prop := latinCountsRow.holds Try.pinned (OpenSpec.ofChange latinCountsWrong)

/-- 'parterrelaw2.LatinExtends': WHATEVER THE INPUT: true; the input reads as it did. -/
def latinExtendsSpec : ChangeSpec := { name := "latinExtends", fn := fun _ => fun
  | [d1, d2] => { results := [.lit (.bool true)], args := [d1, d2] }
  | _ => none }
def latinExtendsRow : OpenClaim := { program := "ytagpbkcnjogbgaa", sum := "e0d7ae8d5f558540b2eb68951aa83be4e20cba53e997742c415f339c41a70c44", func := "parterre/parterrelaw2.LatinExtends", spec := "latinExtends", unfollowed := true, recurses := true, apart := false }
def LatinExtendsSaid : Prop := latinExtendsRow.holds Try.pinned (OpenSpec.ofChange latinExtendsSpec)

/-- ITS FALSE NEIGHBOUR: 'it returns false'. Refute it at one input. -/
def latinExtendsWrong : ChangeSpec := { name := "latinExtends", fn := fun _ => fun
  | [d1, d2] => { results := [.lit (.bool false)], args := [d1, d2] }
  | _ => none }
def LatinExtendsWrongFalsely : Prop := latinExtendsRow.holds Try.pinned (OpenSpec.ofChange latinExtendsWrong)

/-- 'parterrelaw2.LatinHall': WHATEVER THE INPUT: true; the input reads as it did. -/
def latinHallSpec : ChangeSpec := { name := "latinHall", fn := fun _ => fun
  | [d1, d2] => { results := [.lit (.bool true)], args := [d1, d2] }
  | _ => none }
def latinHallRow : OpenClaim := { program := "ytagpbkcnjogbgaa", sum := "e0d7ae8d5f558540b2eb68951aa83be4e20cba53e997742c415f339c41a70c44", func := "parterre/parterrelaw2.LatinHall", spec := "latinHall", unfollowed := true, recurses := true, apart := false }
def LatinHallSaid : Prop := latinHallRow.holds Try.pinned (OpenSpec.ofChange latinHallSpec)

/-- ITS FALSE NEIGHBOUR: 'it returns false'. Refute it at one input. -/
def latinHallWrong : ChangeSpec := { name := "latinHall", fn := fun _ => fun
  | [d1, d2] => { results := [.lit (.bool false)], args := [d1, d2] }
  | _ => none }
def LatinHallWrongFalsely : Prop := latinHallRow.holds Try.pinned (OpenSpec.ofChange latinHallWrong)

/- THE SECOND FORM. 'bulk': how many values and letters a reading holds, each counted each time it is reached (what is shared counts as often as it is met; a slice's spare places count too). A statement '..UptoSaid' is the law's where the arguments, and the package variables that the reading takes, are together of bulk at most 1048576: NARROWER than '..Said'. Prove '..Said' where nothing that the law and all that it calls make is longer than what came in: it says more and counts as full. Else prove '..UptoSaid'. A law counts once. -/
mutual
def uptoBulk {H : Type} : DataW H → Nat
  | .lit (.string bytes) => bytes.length + 1
  | .lit _ => 1
  | .nil => 1
  | .ptr d => uptoBulk d + 1
  | .slice elems spare => uptoBulkAll elems + uptoBulkAll spare + 1
  | .agg parts => uptoBulkAll parts + 1
  | .iface _ d => uptoBulk d + 1
  | .map entries => uptoBulkEntries entries + 1
  | .held _ => 1
def uptoBulkAll {H : Type} : List (DataW H) → Nat
  | [] => 0
  | d :: r => uptoBulk d + uptoBulkAll r
def uptoBulkEntries {H : Type} : List (Lit × DataW H) → Nat
  | [] => 0
  | x :: r => uptoBulkEntry x + uptoBulkEntries r
def uptoBulkEntry {H : Type} : Lit × DataW H → Nat
  | (.string bytes, d) => bytes.length + uptoBulk d + 1
  | (_, d) => uptoBulk d + 1
 end
def uptoSmall : (H : Type) → List (DataW H) → Bool := fun _ ds => decide (uptoBulkAll ds ≤ 1048576)
def OpenSpec.upto (s : _root_.Go.ChangeSpec) : _root_.Go.OpenSpec := { _root_.Go.OpenSpec.ofChange s with cond := some uptoSmall }

/-- 'parterrelaw2.LatinPairs', WHERE WHAT IT READS IS OF BULK AT MOST 1048576: true; the input reads as it did. -/
def latinPairsUptoRow : OpenClaim := { program := "ytagpbkcnjogbgaa", sum := "e0d7ae8d5f558540b2eb68951aa83be4e20cba53e997742c415f339c41a70c44", func := "parterre/parterrelaw2.LatinPairs", spec := "latinPairs", unfollowed := true, recurses := true, apart := false, narrowed := true }
def LatinPairsUptoSaid : Prop := latinPairsUptoRow.holds Try.pinned (OpenSpec.upto latinPairsSpec)

/-- 'parterrelaw2.LatinCounts', WHERE WHAT IT READS IS OF BULK AT MOST 1048576: true; the input reads as it did. -/
def latinCountsUptoRow : OpenClaim := { program := "ytagpbkcnjogbgaa", sum := "e0d7ae8d5f558540b2eb68951aa83be4e20cba53e997742c415f339c41a70c44", func := "parterre/parterrelaw2.LatinCounts", spec := "latinCounts", unfollowed := true, recurses := true, apart := false, narrowed := true }
def LatinCountsUptoSaid : Prop := latinCountsUptoRow.holds Try.pinned (OpenSpec.upto latinCountsSpec)

/-- 'parterrelaw2.LatinExtends', WHERE WHAT IT READS IS OF BULK AT MOST 1048576: true; the input reads as it did. -/
def latinExtendsUptoRow : OpenClaim := { program := "ytagpbkcnjogbgaa", sum := "e0d7ae8d5f558540b2eb68951aa83be4e20cba53e997742c415f339c41a70c44", func := "parterre/parterrelaw2.LatinExtends", spec := "latinExtends", unfollowed := true, recurses := true, apart := false, narrowed := true }
def LatinExtendsUptoSaid : Prop := latinExtendsUptoRow.holds Try.pinned (OpenSpec.upto latinExtendsSpec)

/-- 'parterrelaw2.LatinHall', WHERE WHAT IT READS IS OF BULK AT MOST 1048576: true; the input reads as it did. -/
def latinHallUptoRow : OpenClaim := { program := "ytagpbkcnjogbgaa", sum := "e0d7ae8d5f558540b2eb68951aa83be4e20cba53e997742c415f339c41a70c44", func := "parterre/parterrelaw2.LatinHall", spec := "latinHall", unfollowed := true, recurses := true, apart := false, narrowed := true }
def LatinHallUptoSaid : Prop := latinHallUptoRow.holds Try.pinned (OpenSpec.upto latinHallSpec)

end Rows
end Go.Proofs.Ytagpbkcnjogbgaa
