/- The walks of the document's Inverse, Power, LogOf and TraceOf on a true field. -/
import Derived.Test.YtgdkfbgehbdkjabDoorW49
import Derived.Test.YtgdkfbgehbdkjabDoorW37
namespace Go.Proofs.YtgdkfbgehbdkjabDoor.Fd
open Go.RowKit

theorem pow_succ {P K : Nat} {m : Nat → Int} (hR : Ring1 P K m) (a j : Nat) : mulQ P K m (powQ P K m a j) a = powQ P K m a (j + 1) := mulQ_comm hR _ _

end Go.Proofs.YtgdkfbgehbdkjabDoor.Fd
