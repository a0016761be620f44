/- The walks of Ints and Fields: are two lists, two fields the same? -/
import Derived.Test.YthdjionamhekfaaDoorBaseB
import Derived.Deep.QuietTactic
import Derived.BigQuiet
namespace Go.Proofs.YthdjionamhekfaaDoor
open Go.RowKit

end Go.Proofs.YthdjionamhekfaaDoor
