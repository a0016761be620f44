/- Sums over the index; contents of two colours together; nothing of the program. -/
import Derived.Test.YtgpkhfpejopacabGreatDoorZCCon
import Derived.Test.YtgpkhfpejopacabGreatDoorZCSum
namespace Go.Proofs.YtgpkhfpejopacabGreatDoor.Gc

/-! ### two colours -/
end Go.Proofs.YtgpkhfpejopacabGreatDoor.Gc
