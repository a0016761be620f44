/- The walks of allBelow, twice and Check. -/
import Derived.Test.YtagpbkcnjogbgaaPList
import Derived.Deep.QuietTactic
import Derived.BigQuiet
namespace Go.Proofs.Ytagpbkcnjogbgaa
open Go.RowKit

end Go.Proofs.Ytagpbkcnjogbgaa
