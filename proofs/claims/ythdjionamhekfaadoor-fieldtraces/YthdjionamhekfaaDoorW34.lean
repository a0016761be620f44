/- The walk of Digits: the digits of a number, in new memory. -/
import Derived.Test.YthdjionamhekfaaDoorBase
namespace Go.Proofs.YthdjionamhekfaaDoor
open Go.RowKit

end Go.Proofs.YthdjionamhekfaaDoor
