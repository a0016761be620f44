/- The walk of the document's lined; what it tells. -/
import Derived.Test.YtgpkhfpejopacabDoorDTo
import Derived.Test.YtgpkhfpejopacabDoorPlT
namespace Go.Proofs.YtgpkhfpejopacabDoor
open Go.RowKit

theorem mt_len (s b : List Nat) : mt s b ≤ s.length := List.countP_le_length
end Go.Proofs.YtgpkhfpejopacabDoor
