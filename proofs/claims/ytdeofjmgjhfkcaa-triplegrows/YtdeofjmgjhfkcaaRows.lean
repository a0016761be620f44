/-
  No cell of these rows narrows 'for every input' (looked for: loops, veiled, ifaces, maps, wideKeys, modest, calm, conditions, laid).
  DERIVED. THE GIVEN ROWS OF THIS SEAT. 6 by the template 'for every input the law returns true; each argument reads behind the call as it read before'; 0 by the template 'total and deterministic' (their statements: YtdeofjmgjhfkcaaTotals.lean).
  GIVEN WITH THE SEED: the statements are not yours to turn. If you find one false, say at which input.
  Laid BY PROGRAM, IN A SANDBOX (cutbox-rows.mjs): the forced cells as the released guide's own fill.sh prints them over the translation e618559ddf6aa470… (all of the seat's roots in one cut). By AI agents, Wed Nov 11 2026. No macro, syntax, notation, axiom, sorry.
-/
import Derived.Test.YtdeofjmgjhfkcaaChecked
import GoSem.Claim
import GoSem.ClaimJoined
import GoSem.ClaimMapViews
import Derived.JoinedTies
import Derived.KernelRfl
namespace Go.Proofs.Ytdeofjmgjhfkcaa
/- THE CELL 'sum', in the pinned program and in every row, IS THE sha256 OF THE DUMP (.gsa) THAT YtdeofjmgjhfkcaaProg.lean LOADS. Nothing in Lean hashes anything: it is a label: what it is worth is what the hold of that sum in a sandbox is worth. -/
noncomputable def Try.pinned : Pinned := { name := "ytdeofjmgjhfkcaa", sum := "e618559ddf6aa470fcb2a95570589d0bf27d4f3f7636713798a48bbd9e8aa711", checked := Try.checked }
namespace Rows
def none {H : Type} : Left H := { results := [], args := [] }

/-- 'parterrelaw2.TripleMakes': WHATEVER THE INPUT: true; the input reads as it did. -/
def tripleMakesSpec : ChangeSpec := { name := "tripleMakes", fn := fun _ => fun
  | [d] => { results := [.lit (.bool true)], args := [d] }
  | _ => none }
def tripleMakesRow : OpenClaim := { program := "ytdeofjmgjhfkcaa", sum := "e618559ddf6aa470fcb2a95570589d0bf27d4f3f7636713798a48bbd9e8aa711", func := "parterre/parterrelaw2.TripleMakes", spec := "tripleMakes", unfollowed := true, recurses := true, apart := false }
def TripleMakesSaid : Prop := tripleMakesRow.holds Try.pinned (OpenSpec.ofChange tripleMakesSpec)

/-- ITS FALSE NEIGHBOUR: 'it returns false'. Refute it at one input. -/
def tripleMakesWrong : ChangeSpec := { name := "tripleMakes", fn := fun _ => fun
  | [d] => { results := [.lit (.bool false)], args := [d] }
  | _ => none }
def TripleMakesWrongFalsely : Prop := tripleMakesRow.holds Try.pinned (OpenSpec.ofChange tripleMakesWrong)

/-- 'parterrelaw2.TripleTurns': WHATEVER THE INPUT: true; the input reads as it did. -/
def tripleTurnsSpec : ChangeSpec := { name := "tripleTurns", fn := fun _ => fun
  | [d1, d2] => { results := [.lit (.bool true)], args := [d1, d2] }
  | _ => none }
def tripleTurnsRow : OpenClaim := { program := "ytdeofjmgjhfkcaa", sum := "e618559ddf6aa470fcb2a95570589d0bf27d4f3f7636713798a48bbd9e8aa711", func := "parterre/parterrelaw2.TripleTurns", spec := "tripleTurns", unfollowed := true, recurses := true, apart := false }
def TripleTurnsSaid : Prop := tripleTurnsRow.holds Try.pinned (OpenSpec.ofChange tripleTurnsSpec)

/-- ITS FALSE NEIGHBOUR: 'it returns false'. Refute it at one input. -/
def tripleTurnsWrong : ChangeSpec := { name := "tripleTurns", fn := fun _ => fun
  | [d1, d2] => { results := [.lit (.bool false)], args := [d1, d2] }
  | _ => none }
def TripleTurnsWrongFalsely : Prop := tripleTurnsRow.holds Try.pinned (OpenSpec.ofChange tripleTurnsWrong)

/-- 'parterrelaw2.TriplePasses': WHATEVER THE INPUT: true; the input reads as it did. -/
def triplePassesSpec : ChangeSpec := { name := "triplePasses", fn := fun _ => fun
  | [d] => { results := [.lit (.bool true)], args := [d] }
  | _ => none }
def triplePassesRow : OpenClaim := { program := "ytdeofjmgjhfkcaa", sum := "e618559ddf6aa470fcb2a95570589d0bf27d4f3f7636713798a48bbd9e8aa711", func := "parterre/parterrelaw2.TriplePasses", spec := "triplePasses", unfollowed := true, recurses := true, apart := false }
def TriplePassesSaid : Prop := triplePassesRow.holds Try.pinned (OpenSpec.ofChange triplePassesSpec)

/-- ITS FALSE NEIGHBOUR: 'it returns false'. Refute it at one input. -/
def triplePassesWrong : ChangeSpec := { name := "triplePasses", fn := fun _ => fun
  | [d] => { results := [.lit (.bool false)], args := [d] }
  | _ => none }
def TriplePassesWrongFalsely : Prop := triplePassesRow.holds Try.pinned (OpenSpec.ofChange triplePassesWrong)

/-- 'parterrelaw2.TripleGrows': WHATEVER THE INPUT: true; the input reads as it did. -/
def tripleGrowsSpec : ChangeSpec := { name := "tripleGrows", fn := fun _ => fun
  | [d1, d2] => { results := [.lit (.bool true)], args := [d1, d2] }
  | _ => none }
def tripleGrowsRow : OpenClaim := { program := "ytdeofjmgjhfkcaa", sum := "e618559ddf6aa470fcb2a95570589d0bf27d4f3f7636713798a48bbd9e8aa711", func := "parterre/parterrelaw2.TripleGrows", spec := "tripleGrows", unfollowed := true, recurses := true, apart := false }
def TripleGrowsSaid : Prop := tripleGrowsRow.holds Try.pinned (OpenSpec.ofChange tripleGrowsSpec)

/-- ITS FALSE NEIGHBOUR: 'it returns false'. Refute it at one input. -/
def tripleGrowsWrong : ChangeSpec := { name := "tripleGrows", fn := fun _ => fun
  | [d1, d2] => { results := [.lit (.bool false)], args := [d1, d2] }
  | _ => none }
def TripleGrowsWrongFalsely : Prop := tripleGrowsRow.holds Try.pinned (OpenSpec.ofChange tripleGrowsWrong)

/-- 'parterrelaw2.TripleKirkman': WHATEVER THE INPUT: true; the input reads as it did. -/
def tripleKirkmanSpec : ChangeSpec := { name := "tripleKirkman", fn := fun _ => fun
  | [d1, d2] => { results := [.lit (.bool true)], args := [d1, d2] }
  | _ => none }
def tripleKirkmanRow : OpenClaim := { program := "ytdeofjmgjhfkcaa", sum := "e618559ddf6aa470fcb2a95570589d0bf27d4f3f7636713798a48bbd9e8aa711", func := "parterre/parterrelaw2.TripleKirkman", spec := "tripleKirkman", unfollowed := true, recurses := true, apart := false }
def TripleKirkmanSaid : Prop := tripleKirkmanRow.holds Try.pinned (OpenSpec.ofChange tripleKirkmanSpec)

/-- ITS FALSE NEIGHBOUR: 'it returns false'. Refute it at one input. -/
def tripleKirkmanWrong : ChangeSpec := { name := "tripleKirkman", fn := fun _ => fun
  | [d1, d2] => { results := [.lit (.bool false)], args := [d1, d2] }
  | _ => none }
def TripleKirkmanWrongFalsely : Prop := tripleKirkmanRow.holds Try.pinned (OpenSpec.ofChange tripleKirkmanWrong)

/-- 'parterrelaw2.TripleDoubled': WHATEVER THE INPUT: true; the input reads as it did. -/
def tripleDoubledSpec : ChangeSpec := { name := "tripleDoubled", fn := fun _ => fun
  | [d1, d2] => { results := [.lit (.bool true)], args := [d1, d2] }
  | _ => none }
def tripleDoubledRow : OpenClaim := { program := "ytdeofjmgjhfkcaa", sum := "e618559ddf6aa470fcb2a95570589d0bf27d4f3f7636713798a48bbd9e8aa711", func := "parterre/parterrelaw2.TripleDoubled", spec := "tripleDoubled", unfollowed := true, recurses := true, apart := false }
def TripleDoubledSaid : Prop := tripleDoubledRow.holds Try.pinned (OpenSpec.ofChange tripleDoubledSpec)

/-- ITS FALSE NEIGHBOUR: 'it returns false'. Refute it at one input. -/
def tripleDoubledWrong : ChangeSpec := { name := "tripleDoubled", fn := fun _ => fun
  | [d1, d2] => { results := [.lit (.bool false)], args := [d1, d2] }
  | _ => none }
def TripleDoubledWrongFalsely : Prop := tripleDoubledRow.holds Try.pinned (OpenSpec.ofChange tripleDoubledWrong)

/- THE SECOND FORM. 'bulk': how many values and letters a reading holds, each counted each time it is reached (what is shared counts as often as it is met; a slice's spare places count too). A statement '..UptoSaid' is the law's where the arguments, and the package variables that the reading takes, are together of bulk at most 1048576: NARROWER than '..Said'. Prove '..Said' where nothing that the law and all that it calls make is longer than what came in: it says more and counts as full. Else prove '..UptoSaid'. A law counts once. -/
mutual
def uptoBulk {H : Type} : DataW H → Nat
  | .lit (.string bytes) => bytes.length + 1
  | .lit _ => 1
  | .nil => 1
  | .ptr d => uptoBulk d + 1
  | .slice elems spare => uptoBulkAll elems + uptoBulkAll spare + 1
  | .agg parts => uptoBulkAll parts + 1
  | .iface _ d => uptoBulk d + 1
  | .map entries => uptoBulkEntries entries + 1
  | .held _ => 1
def uptoBulkAll {H : Type} : List (DataW H) → Nat
  | [] => 0
  | d :: r => uptoBulk d + uptoBulkAll r
def uptoBulkEntries {H : Type} : List (Lit × DataW H) → Nat
  | [] => 0
  | x :: r => uptoBulkEntry x + uptoBulkEntries r
def uptoBulkEntry {H : Type} : Lit × DataW H → Nat
  | (.string bytes, d) => bytes.length + uptoBulk d + 1
  | (_, d) => uptoBulk d + 1
 end
def uptoSmall : (H : Type) → List (DataW H) → Bool := fun _ ds => decide (uptoBulkAll ds ≤ 1048576)
def OpenSpec.upto (s : _root_.Go.ChangeSpec) : _root_.Go.OpenSpec := { _root_.Go.OpenSpec.ofChange s with cond := some uptoSmall }

/-- 'parterrelaw2.TripleMakes', WHERE WHAT IT READS IS OF BULK AT MOST 1048576: true; the input reads as it did. -/
def tripleMakesUptoRow : OpenClaim := { program := "ytdeofjmgjhfkcaa", sum := "e618559ddf6aa470fcb2a95570589d0bf27d4f3f7636713798a48bbd9e8aa711", func := "parterre/parterrelaw2.TripleMakes", spec := "tripleMakes", unfollowed := true, recurses := true, apart := false, narrowed := true }
def TripleMakesUptoSaid : Prop := tripleMakesUptoRow.holds Try.pinned (OpenSpec.upto tripleMakesSpec)

/-- 'parterrelaw2.TripleTurns', WHERE WHAT IT READS IS OF BULK AT MOST 1048576: true; the input reads as it did. -/
def tripleTurnsUptoRow : OpenClaim := { program := "ytdeofjmgjhfkcaa", sum := "e618559ddf6aa470fcb2a95570589d0bf27d4f3f7636713798a48bbd9e8aa711", func := "parterre/parterrelaw2.TripleTurns", spec := "tripleTurns", unfollowed := true, recurses := true, apart := false, narrowed := true }
def TripleTurnsUptoSaid : Prop := tripleTurnsUptoRow.holds Try.pinned (OpenSpec.upto tripleTurnsSpec)

/-- 'parterrelaw2.TriplePasses', WHERE WHAT IT READS IS OF BULK AT MOST 1048576: true; the input reads as it did. -/
def triplePassesUptoRow : OpenClaim := { program := "ytdeofjmgjhfkcaa", sum := "e618559ddf6aa470fcb2a95570589d0bf27d4f3f7636713798a48bbd9e8aa711", func := "parterre/parterrelaw2.TriplePasses", spec := "triplePasses", unfollowed := true, recurses := true, apart := false, narrowed := true }
def TriplePassesUptoSaid : Prop := triplePassesUptoRow.holds Try.pinned (OpenSpec.upto triplePassesSpec)

/-- 'parterrelaw2.TripleGrows', WHERE WHAT IT READS IS OF BULK AT MOST 1048576: true; the input reads as it did. -/
def tripleGrowsUptoRow : OpenClaim := { program := "ytdeofjmgjhfkcaa", sum := "e618559ddf6aa470fcb2a95570589d0bf27d4f3f7636713798a48bbd9e8aa711", func := "parterre/parterrelaw2.TripleGrows", spec := "tripleGrows", unfollowed := true, recurses := true, apart := false, narrowed := true }
def TripleGrowsUptoSaid : Prop := tripleGrowsUptoRow.holds Try.pinned (OpenSpec.upto tripleGrowsSpec)

/-- 'parterrelaw2.TripleKirkman', WHERE WHAT IT READS IS OF BULK AT MOST 1048576: true; the input reads as it did. -/
def tripleKirkmanUptoRow : OpenClaim := { program := "ytdeofjmgjhfkcaa", sum := "e618559ddf6aa470fcb2a95570589d0bf27d4f3f7636713798a48bbd9e8aa711", func := "parterre/parterrelaw2.TripleKirkman", spec := "tripleKirkman", unfollowed := true, recurses := true, apart := false, narrowed := true }
def TripleKirkmanUptoSaid : Prop := tripleKirkmanUptoRow.holds Try.pinned (OpenSpec.upto tripleKirkmanSpec)

/-- 'parterrelaw2.TripleDoubled', WHERE WHAT IT READS IS OF BULK AT MOST 1048576: true; the input reads as it did. -/
def tripleDoubledUptoRow : OpenClaim := { program := "ytdeofjmgjhfkcaa", sum := "e618559ddf6aa470fcb2a95570589d0bf27d4f3f7636713798a48bbd9e8aa711", func := "parterre/parterrelaw2.TripleDoubled", spec := "tripleDoubled", unfollowed := true, recurses := true, apart := false, narrowed := true }
def TripleDoubledUptoSaid : Prop := tripleDoubledUptoRow.holds Try.pinned (OpenSpec.upto tripleDoubledSpec)

end Rows
end Go.Proofs.Ytdeofjmgjhfkcaa
