/-
  No cell of these rows narrows 'for every input' (looked for: loops, veiled, ifaces, maps, wideKeys, modest, calm, conditions, laid).
  DERIVED. THE GIVEN ROWS OF THIS SEAT. 4 by the template 'for every input the law returns true; each argument reads behind the call as it read before'; 0 by the template 'total and deterministic' (their statements: YtlmjlffipinjiaaTotals.lean).
  GIVEN WITH THE SEED: the statements are not yours to turn. If you find one false, say at which input.
  Laid BY PROGRAM, IN A SANDBOX (cutbox-rows.mjs): the forced cells as the released guide's own fill.sh prints them over the translation 8b59f005ee2142bf… (all of the seat's roots in one cut). By AI agents, Wed Nov 11 2026. No macro, syntax, notation, axiom, sorry.
-/
import Derived.Test.YtlmjlffipinjiaaChecked
import GoSem.Claim
import GoSem.ClaimJoined
import GoSem.ClaimMapViews
import Derived.JoinedTies
import Derived.KernelRfl
namespace Go.Proofs.Ytlmjlffipinjiaa
/- THE CELL 'sum', in the pinned program and in every row, IS THE sha256 OF THE DUMP (.gsa) THAT YtlmjlffipinjiaaProg.lean LOADS. Nothing in Lean hashes anything: it is a label: what it is worth is what the hold of that sum in a sandbox is worth. -/
noncomputable def Try.pinned : Pinned := { name := "ytlmjlffipinjiaa", sum := "8b59f005ee2142bfd3803315237911f2b03e3781cc487adab9be111f8c5a9937", checked := Try.checked }
namespace Rows
def none {H : Type} : Left H := { results := [], args := [] }

/-- 'parterrelaw3.StrongChecks': WHATEVER THE INPUT: true; the input reads as it did. -/
def strongChecksSpec : ChangeSpec := { name := "strongChecks", fn := fun _ => fun
  | [d] => { results := [.lit (.bool true)], args := [d] }
  | _ => none }
def strongChecksRow : OpenClaim := { program := "ytlmjlffipinjiaa", sum := "8b59f005ee2142bfd3803315237911f2b03e3781cc487adab9be111f8c5a9937", func := "parterre/parterrelaw3.StrongChecks", spec := "strongChecks", unfollowed := true, recurses := true, apart := false }
def StrongChecksSaid : Prop := strongChecksRow.holds Try.pinned (OpenSpec.ofChange strongChecksSpec)

/-- ITS FALSE NEIGHBOUR: 'it returns false'. Refute it at one input. -/
def strongChecksWrong : ChangeSpec := { name := "strongChecks", fn := fun _ => fun
  | [d] => { results := [.lit (.bool false)], args := [d] }
  | _ => none }
def StrongChecksWrongFalsely : Prop := strongChecksRow.holds Try.pinned (OpenSpec.ofChange strongChecksWrong)

/-- 'parterrelaw3.StrongReal': WHATEVER THE INPUT: true; the input reads as it did. -/
def strongRealSpec : ChangeSpec := { name := "strongReal", fn := fun _ => fun
  | [d] => { results := [.lit (.bool true)], args := [d] }
  | _ => none }
def strongRealRow : OpenClaim := { program := "ytlmjlffipinjiaa", sum := "8b59f005ee2142bfd3803315237911f2b03e3781cc487adab9be111f8c5a9937", func := "parterre/parterrelaw3.StrongReal", spec := "strongReal", unfollowed := true, recurses := true, apart := false }
def StrongRealSaid : Prop := strongRealRow.holds Try.pinned (OpenSpec.ofChange strongRealSpec)

/-- ITS FALSE NEIGHBOUR: 'it returns false'. Refute it at one input. -/
def strongRealWrong : ChangeSpec := { name := "strongReal", fn := fun _ => fun
  | [d] => { results := [.lit (.bool false)], args := [d] }
  | _ => none }
def StrongRealWrongFalsely : Prop := strongRealRow.holds Try.pinned (OpenSpec.ofChange strongRealWrong)

/-- 'parterrelaw3.StrongOther': WHATEVER THE INPUT: true; the input reads as it did. -/
def strongOtherSpec : ChangeSpec := { name := "strongOther", fn := fun _ => fun
  | [d] => { results := [.lit (.bool true)], args := [d] }
  | _ => none }
def strongOtherRow : OpenClaim := { program := "ytlmjlffipinjiaa", sum := "8b59f005ee2142bfd3803315237911f2b03e3781cc487adab9be111f8c5a9937", func := "parterre/parterrelaw3.StrongOther", spec := "strongOther", unfollowed := true, recurses := true, apart := false }
def StrongOtherSaid : Prop := strongOtherRow.holds Try.pinned (OpenSpec.ofChange strongOtherSpec)

/-- ITS FALSE NEIGHBOUR: 'it returns false'. Refute it at one input. -/
def strongOtherWrong : ChangeSpec := { name := "strongOther", fn := fun _ => fun
  | [d] => { results := [.lit (.bool false)], args := [d] }
  | _ => none }
def StrongOtherWrongFalsely : Prop := strongOtherRow.holds Try.pinned (OpenSpec.ofChange strongOtherWrong)

/-- 'parterrelaw3.StrongFriends': WHATEVER THE INPUT: true; the input reads as it did. -/
def strongFriendsSpec : ChangeSpec := { name := "strongFriends", fn := fun _ => fun
  | [d] => { results := [.lit (.bool true)], args := [d] }
  | _ => none }
def strongFriendsRow : OpenClaim := { program := "ytlmjlffipinjiaa", sum := "8b59f005ee2142bfd3803315237911f2b03e3781cc487adab9be111f8c5a9937", func := "parterre/parterrelaw3.StrongFriends", spec := "strongFriends", unfollowed := true, recurses := true, apart := false }
def StrongFriendsSaid : Prop := strongFriendsRow.holds Try.pinned (OpenSpec.ofChange strongFriendsSpec)

/-- ITS FALSE NEIGHBOUR: 'it returns false'. Refute it at one input. -/
def strongFriendsWrong : ChangeSpec := { name := "strongFriends", fn := fun _ => fun
  | [d] => { results := [.lit (.bool false)], args := [d] }
  | _ => none }
def StrongFriendsWrongFalsely : Prop := strongFriendsRow.holds Try.pinned (OpenSpec.ofChange strongFriendsWrong)

/- THE SECOND FORM. 'bulk': how many values and letters a reading holds, each counted each time it is reached (what is shared counts as often as it is met; a slice's spare places count too). A statement '..UptoSaid' is the law's where the arguments, and the package variables that the reading takes, are together of bulk at most 1048576: NARROWER than '..Said'. Prove '..Said' where nothing that the law and all that it calls make is longer than what came in: it says more and counts as full. Else prove '..UptoSaid'. A law counts once. -/
mutual
def uptoBulk {H : Type} : DataW H → Nat
  | .lit (.string bytes) => bytes.length + 1
  | .lit _ => 1
  | .nil => 1
  | .ptr d => uptoBulk d + 1
  | .slice elems spare => uptoBulkAll elems + uptoBulkAll spare + 1
  | .agg parts => uptoBulkAll parts + 1
  | .iface _ d => uptoBulk d + 1
  | .map entries => uptoBulkEntries entries + 1
  | .held _ => 1
def uptoBulkAll {H : Type} : List (DataW H) → Nat
  | [] => 0
  | d :: r => uptoBulk d + uptoBulkAll r
def uptoBulkEntries {H : Type} : List (Lit × DataW H) → Nat
  | [] => 0
  | x :: r => uptoBulkEntry x + uptoBulkEntries r
def uptoBulkEntry {H : Type} : Lit × DataW H → Nat
  | (.string bytes, d) => bytes.length + uptoBulk d + 1
  | (_, d) => uptoBulk d + 1
 end
def uptoSmall : (H : Type) → List (DataW H) → Bool := fun _ ds => decide (uptoBulkAll ds ≤ 1048576)
def OpenSpec.upto (s : _root_.Go.ChangeSpec) : _root_.Go.OpenSpec := { _root_.Go.OpenSpec.ofChange s with cond := some uptoSmall }

/-- 'parterrelaw3.StrongChecks', WHERE WHAT IT READS IS OF BULK AT MOST 1048576: true; the input reads as it did. -/
def strongChecksUptoRow : OpenClaim := { program := "ytlmjlffipinjiaa", sum := "8b59f005ee2142bfd3803315237911f2b03e3781cc487adab9be111f8c5a9937", func := "parterre/parterrelaw3.StrongChecks", spec := "strongChecks", unfollowed := true, recurses := true, apart := false, narrowed := true }
def StrongChecksUptoSaid : Prop := strongChecksUptoRow.holds Try.pinned (OpenSpec.upto strongChecksSpec)

/-- 'parterrelaw3.StrongReal', WHERE WHAT IT READS IS OF BULK AT MOST 1048576: true; the input reads as it did. -/
def strongRealUptoRow : OpenClaim := { program := "ytlmjlffipinjiaa", sum := "8b59f005ee2142bfd3803315237911f2b03e3781cc487adab9be111f8c5a9937", func := "parterre/parterrelaw3.StrongReal", spec := "strongReal", unfollowed := true, recurses := true, apart := false, narrowed := true }
def StrongRealUptoSaid : Prop := strongRealUptoRow.holds Try.pinned (OpenSpec.upto strongRealSpec)

/-- 'parterrelaw3.StrongOther', WHERE WHAT IT READS IS OF BULK AT MOST 1048576: true; the input reads as it did. -/
def strongOtherUptoRow : OpenClaim := { program := "ytlmjlffipinjiaa", sum := "8b59f005ee2142bfd3803315237911f2b03e3781cc487adab9be111f8c5a9937", func := "parterre/parterrelaw3.StrongOther", spec := "strongOther", unfollowed := true, recurses := true, apart := false, narrowed := true }
def StrongOtherUptoSaid : Prop := strongOtherUptoRow.holds Try.pinned (OpenSpec.upto strongOtherSpec)

/-- 'parterrelaw3.StrongFriends', WHERE WHAT IT READS IS OF BULK AT MOST 1048576: true; the input reads as it did. -/
def strongFriendsUptoRow : OpenClaim := { program := "ytlmjlffipinjiaa", sum := "8b59f005ee2142bfd3803315237911f2b03e3781cc487adab9be111f8c5a9937", func := "parterre/parterrelaw3.StrongFriends", spec := "strongFriends", unfollowed := true, recurses := true, apart := false, narrowed := true }
def StrongFriendsUptoSaid : Prop := strongFriendsUptoRow.holds Try.pinned (OpenSpec.upto strongFriendsSpec)

end Rows
end Go.Proofs.Ytlmjlffipinjiaa
