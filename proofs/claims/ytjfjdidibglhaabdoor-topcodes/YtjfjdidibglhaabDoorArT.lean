/- Choices of columns as bits: the program's way is the document's. Nothing of the program. -/
import Derived.Test.YtjfjdidibglhaabDoorArP
import Derived.Test.YtjfjdidibglhaabDoorBPure
/- What is wrong with runs. Nothing of the program. -/
/- Runs without a column, and those of a level. Nothing of the program. -/
namespace Go.Proofs.YtjfjdidibglhaabDoor

end Go.Proofs.YtjfjdidibglhaabDoor

namespace Go.Proofs.YtjfjdidibglhaabDoor

/-- A list as a run. -/
def fnA (l : List Int) (c : Nat) : Nat := (l.getD c 0).toNat
def rnA (ls : List (List Int)) : List (Nat → Nat) := ls.map fnA
end Go.Proofs.YtjfjdidibglhaabDoor

namespace Go.Proofs.YtjfjdidibglhaabDoor

end Go.Proofs.YtjfjdidibglhaabDoor
