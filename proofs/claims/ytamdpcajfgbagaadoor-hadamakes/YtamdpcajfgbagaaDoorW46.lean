/- The walks of Number, Size, In and Product of the document's answer. -/
import Derived.Test.YtamdpcajfgbagaaDoorBaseB
import Derived.Test.YtamdpcajfgbagaaDoorW51
import Derived.Test.YtamdpcajfgbagaaDoorPureE
import Derived.BigRegion
import Derived.Laws.CopyOwn
namespace Go.Proofs.YtamdpcajfgbagaaDoor.Fd
open Go.RowKit

def inB (q a : Int) : Bool := decide (0 ≤ a) && decide (a < q)
end Go.Proofs.YtamdpcajfgbagaaDoor.Fd
