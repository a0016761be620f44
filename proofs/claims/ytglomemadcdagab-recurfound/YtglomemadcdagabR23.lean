/- The walks of Number and States of the document's answer. -/
import Derived.Test.YtglomemadcdagabR26
namespace Go.Proofs.Ytglomemadcdagab
open Go.RowKit

/-- p to the power of k, or 0 above most. -/
def statZ (P k most : Nat) : Nat := if P ^ k ≤ most then P ^ k else 0
theorem pow_grow {P : Nat} (hp : 2 ≤ P) {i k : Nat} (h : i ≤ k) : P ^ i ≤ P ^ k := Nat.pow_le_pow_right (by omega) h

end Go.Proofs.Ytglomemadcdagab
