/- A field of the document as such a field; nothing of the program. -/
import Derived.Test.YtjfjdidibglhaabDoorAlgE
import Derived.Test.YtjfjdidibglhaabDoorSpF
namespace Go.Proofs.YtjfjdidibglhaabDoor.Fd

variable {P K : Nat} {m : Nat → Int}
end Go.Proofs.YtjfjdidibglhaabDoor.Fd
