/- The walks of IsPrime and OrderOf of the document's answer. -/
import Derived.Test.YtcjkcgfohmhbcabDoorBase
namespace Go.Proofs.YtcjkcgfohmhbcabDoor.Fd
open Go.RowKit

end Go.Proofs.YtcjkcgfohmhbcabDoor.Fd
