/- One more among those in order; nothing of the program. -/
import Derived.Test.YtjfjdidibglhaabDoorTSo
namespace Go.Proofs.YtjfjdidibglhaabDoor

end Go.Proofs.YtjfjdidibglhaabDoor
