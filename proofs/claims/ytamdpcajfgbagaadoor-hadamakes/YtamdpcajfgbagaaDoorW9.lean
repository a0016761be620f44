/- The walk of Fault: what is wrong with a field. -/
import Derived.Test.YtamdpcajfgbagaaDoorBaseB
import Derived.Test.YtamdpcajfgbagaaDoorW51
import Derived.Test.YtamdpcajfgbagaaDoorW34
import Derived.Test.YtamdpcajfgbagaaDoorW35
import Derived.Deep.QuietTactic
import Derived.BigQuiet
namespace Go.Proofs.YtamdpcajfgbagaaDoor.Fd
open Go.RowKit

end Go.Proofs.YtamdpcajfgbagaaDoor.Fd
