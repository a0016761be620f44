/- The walks of orders, Factorial, rank, Rank, PermRank. -/
import Derived.Test.YtnbkabggmomhlabPRank
import Derived.Test.YtnbkabggmomhlabP28
namespace Go.Proofs.Ytnbkabggmomhlab
open Go.RowKit

/-- A slice no longer than its room. -/
def capOk : Value → Prop
  | .slice _ n c => n ≤ c
  | _ => True

end Go.Proofs.Ytnbkabggmomhlab
