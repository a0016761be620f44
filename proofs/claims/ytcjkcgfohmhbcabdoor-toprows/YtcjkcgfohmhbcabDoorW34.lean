/- The walk of Digits: the digits of a number, in new memory. -/
import Derived.Test.YtcjkcgfohmhbcabDoorBase
namespace Go.Proofs.YtcjkcgfohmhbcabDoor.Fd
open Go.RowKit

end Go.Proofs.YtcjkcgfohmhbcabDoor.Fd
