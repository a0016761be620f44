/- No Golomb ruler is shorter: a search over sets as bits, which the kernel makes; nothing of the program. -/
import Derived.Test.YtmiinhbffiodmaaRuA
namespace Go.Proofs.Ytmiinhbffiodmaa

/-- Can r marks more be laid, none further on than 'room', where B has how far behind the marks lie and ds what differences there are? -/
def srch : Nat → Nat → Nat → Nat → Bool
  | 0, _, _, _ => true
  | r + 1, room, B, ds => (List.range room).any fun d => (Nat.land (Nat.shiftLeft B (d + 1)) ds == 0) && srch r (room - (d + 1)) (Nat.lor (Nat.shiftLeft B (d + 1)) 1) (Nat.lor (Nat.shiftLeft B (d + 1)) ds)
theorem srch2 : srch 1 0 1 0 = false := by decide +kernel
theorem srch3 : srch 2 2 1 0 = false := by decide +kernel
theorem srch4 : srch 3 5 1 0 = false := by decide +kernel
theorem srch5 : srch 4 10 1 0 = false := by decide +kernel
theorem srch6 : srch 5 16 1 0 = false := by decide +kernel
theorem srch7 : srch 6 24 1 0 = false := by decide +kernel

end Go.Proofs.Ytmiinhbffiodmaa
