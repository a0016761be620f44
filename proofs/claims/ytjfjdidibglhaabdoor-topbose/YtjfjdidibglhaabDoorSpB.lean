/- The document's way to a basis: all lists are looked at; nothing of the program. -/
import Derived.Test.YtjfjdidibglhaabDoorSpD
namespace Go.Proofs.YtjfjdidibglhaabDoor
variable {q n : Nat} {ad mu : Nat → Nat → Nat} {ng : Nat → Nat}

end Go.Proofs.YtjfjdidibglhaabDoor
