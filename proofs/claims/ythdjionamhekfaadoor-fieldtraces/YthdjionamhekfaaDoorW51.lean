/- The walks of IsPrime and OrderOf of the document's answer. -/
import Derived.Test.YthdjionamhekfaaDoorBase
namespace Go.Proofs.YthdjionamhekfaaDoor
open Go.RowKit

end Go.Proofs.YthdjionamhekfaaDoor
