/- The document's PathsOf and CycleOf, walked. -/
import Derived.Test.YtgkfddcmngodgabV2
namespace Go.Proofs.Ytgkfddcmngodgab
open Go.RowKit Go.Maps

/-- Paths: how many, the first; the first cycle, if any. -/
def paN (n : Nat) (t : Nat → Nat → Bool) : Nat := (wk n t false n []).1
def paL (n : Nat) (t : Nat → Nat → Bool) : List Nat := (wk n t false n []).2
def cyN (n : Nat) (t : Nat → Nat → Bool) : Nat := (wk n t true (n - 1) [0]).1
def cyL (n : Nat) (t : Nat → Nat → Bool) : List Nat := (wk n t true (n - 1) [0]).2
end Go.Proofs.Ytgkfddcmngodgab
