/- The walk of intercalates. -/
import Derived.Test.YtagpbkcnjogbgaaDoorL1
namespace Go.Proofs.YtagpbkcnjogbgaaDoor
open Go.RowKit

def iF (s : Nat → Nat → Nat) (i k l j : Nat) : Nat := if s i j = s k l ∧ s i l = s k j then 1 else 0
def i4 (s : Nat → Nat → Nat) (i k l c : Nat) : Nat := Sm c fun j => iF s i k l j
def i3 (s : Nat → Nat → Nat) (i k r : Nat) : Nat := Sm r fun l => i4 s i k l l
def i2 (n : Nat) (s : Nat → Nat → Nat) (k c : Nat) : Nat := Sm c fun i => i3 s i k n
def i1 (n : Nat) (s : Nat → Nat → Nat) (c : Nat) : Nat := Sm c fun k => i2 n s k k
theorem i1_all (n : Nat) (s : Nat → Nat → Nat) : i1 n s n = icP n s := rfl

end Go.Proofs.YtagpbkcnjogbgaaDoor
