/- How many permutations have all gaps unlike, by going on with beginnings; nothing of the program. -/
import Derived.Test.YtmiinhbffiodmaaDoorRuE
namespace Go.Proofs.YtmiinhbffiodmaaDoor

/-- What is counted behind a beginning. -/
def cC : Nat → Nat → List Nat → Nat
  | 0, n, l => if l.length = n then 1 else 0
  | f + 1, n, l => if l.length = n then 1 else ((List.range n).map fun x => if l.contains x then 0 else if cosQ (l ++ [x]) then cC f n (l ++ [x]) else 0).sum
theorem cC_few : cC (0 + 1) 1 [] = 1 ∧ cC (1 + 1) 2 [] = 2 ∧ cC (2 + 1) 3 [] = 4 ∧ cC (3 + 1) 4 [] = 12 ∧ cC (4 + 1) 5 [] = 40 := by decide +kernel
theorem cC_6 : cC (5 + 1) 6 [] = 116 := by decide +kernel

end Go.Proofs.YtmiinhbffiodmaaDoor
