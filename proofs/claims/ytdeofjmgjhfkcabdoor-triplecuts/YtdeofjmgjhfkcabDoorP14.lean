/- The walk of Ints: are two lists the same? -/
import Derived.Test.YtdeofjmgjhfkcabDoorPBase
import Derived.Deep.QuietTactic
import Derived.BigQuiet
namespace Go.Proofs.YtdeofjmgjhfkcabDoor
open Go.RowKit

end Go.Proofs.YtdeofjmgjhfkcabDoor
