/- The walk of Ints: are two lists the same? -/
import Derived.Test.YtjfjdidibglhaabDoorPBase
import Derived.Deep.QuietTactic
import Derived.BigQuiet
namespace Go.Proofs.YtjfjdidibglhaabDoor
open Go.RowKit

end Go.Proofs.YtjfjdidibglhaabDoor
