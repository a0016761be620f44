/- The walks of Number, Size, In and Product of the document's answer. -/
import Derived.Test.YthdjionamhekfaaDoorBaseB
import Derived.Test.YthdjionamhekfaaDoorBase
import Derived.Test.YthdjionamhekfaaDoorPureE
import Derived.BigRegion
import Derived.Laws.CopyOwn
namespace Go.Proofs.YthdjionamhekfaaDoor
open Go.RowKit

def inB (q a : Int) : Bool := decide (0 ≤ a) && decide (a < q)
end Go.Proofs.YthdjionamhekfaaDoor
