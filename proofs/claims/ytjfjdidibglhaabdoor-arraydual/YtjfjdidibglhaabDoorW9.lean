/- The walk of Fault: what is wrong with a field. -/
import Derived.Test.YtjfjdidibglhaabDoorBase
import Derived.BigRegion
import Derived.Test.YtjfjdidibglhaabDoorPureC
import Derived.Test.YtjfjdidibglhaabDoorBaseB
import Derived.Test.YtjfjdidibglhaabDoorW51
import Derived.Test.YtjfjdidibglhaabDoorW34
import Derived.Deep.QuietTactic
import Derived.BigQuiet
/- The walk of divides. -/
namespace Go.Proofs.YtjfjdidibglhaabDoor.Fd
open Go.RowKit

end Go.Proofs.YtjfjdidibglhaabDoor.Fd

namespace Go.Proofs.YtjfjdidibglhaabDoor.Fd
open Go.RowKit

end Go.Proofs.YtjfjdidibglhaabDoor.Fd
