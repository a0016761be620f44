/- The walk of Ints: are two lists the same? -/
import Derived.Test.YtlmjlffipinjiabDoorPBase
import Derived.Deep.QuietTactic
import Derived.BigQuiet
namespace Go.Proofs.YtlmjlffipinjiabDoor
open Go.RowKit

end Go.Proofs.YtlmjlffipinjiabDoor
