/- The walks of orders, Factorial, rank, Rank, PermRank. -/
import Derived.Test.YtgpkhfpejopacabGreatDoorZPRank
import Derived.Test.YtgpkhfpejopacabGreatDoorZP28
namespace Go.Proofs.YtgpkhfpejopacabGreatDoor.Gc
open Go.RowKit

/-- A slice no longer than its room. -/
def capOk : Value → Prop
  | .slice _ n c => n ≤ c
  | _ => True

end Go.Proofs.YtgpkhfpejopacabGreatDoor.Gc
