/- How many Costas permutations there are: the kernel counts. -/
import Derived.Test.YtmiinhbffiodmaaDoorRuB
import Derived.Test.YtmiinhbffiodmaaDoorPUnr
namespace Go.Proofs.YtmiinhbffiodmaaDoor

/-- The same question, asked of lists, quickly. -/
def cosQ (l : List Nat) : Bool := cosB l.length fun i => l.getD i 0
def cosN (n : Nat) : Nat := (List.range (fac n)).countP fun k => cosQ (unrL n (List.range n) k)
theorem cosN_5 : cosN 5 = 40 := by decide +kernel
theorem cosN_6 : cosN 6 = 116 := by decide +kernel

end Go.Proofs.YtmiinhbffiodmaaDoor
