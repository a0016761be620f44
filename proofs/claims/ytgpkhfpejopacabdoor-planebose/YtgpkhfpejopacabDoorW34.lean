/- The walk of Digits: the digits of a number, in new memory. -/
import Derived.Test.YtgpkhfpejopacabDoorBase
namespace Go.Proofs.YtgpkhfpejopacabDoor.Fd
open Go.RowKit

end Go.Proofs.YtgpkhfpejopacabDoor.Fd
