/- The walk of Digits: the digits of a number, in new memory. -/
import Derived.Test.YtamdpcajfgbagaaDoorBase
namespace Go.Proofs.YtamdpcajfgbagaaDoor.Fd
open Go.RowKit

end Go.Proofs.YtamdpcajfgbagaaDoor.Fd
