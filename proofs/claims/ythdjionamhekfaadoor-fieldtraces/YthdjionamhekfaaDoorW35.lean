/- The walk of divides. -/
import Derived.Test.YthdjionamhekfaaDoorBase
import Derived.BigRegion
import Derived.Test.YthdjionamhekfaaDoorPureB
namespace Go.Proofs.YthdjionamhekfaaDoor
open Go.RowKit

end Go.Proofs.YthdjionamhekfaaDoor
