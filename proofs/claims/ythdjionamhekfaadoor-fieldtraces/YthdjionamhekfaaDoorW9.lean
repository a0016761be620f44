/- The walk of Fault: what is wrong with a field. -/
import Derived.Test.YthdjionamhekfaaDoorBaseB
import Derived.Test.YthdjionamhekfaaDoorW51
import Derived.Test.YthdjionamhekfaaDoorW34
import Derived.Test.YthdjionamhekfaaDoorW35
import Derived.Deep.QuietTactic
import Derived.BigQuiet
namespace Go.Proofs.YthdjionamhekfaaDoor
open Go.RowKit

end Go.Proofs.YthdjionamhekfaaDoor
