/- The walk of Ints: are two lists the same? -/
import Derived.Test.YtgpkhfpejopacabDoorPBase
import Derived.Deep.QuietTactic
import Derived.BigQuiet
namespace Go.Proofs.YtgpkhfpejopacabDoor
open Go.RowKit

end Go.Proofs.YtgpkhfpejopacabDoor
