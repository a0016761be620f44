/- The walk of divides. -/
import Derived.Test.YtamdpcajfgbagaaDoorBase
import Derived.BigRegion
import Derived.Test.YtamdpcajfgbagaaDoorPureB
namespace Go.Proofs.YtamdpcajfgbagaaDoor.Fd
open Go.RowKit

end Go.Proofs.YtamdpcajfgbagaaDoor.Fd
