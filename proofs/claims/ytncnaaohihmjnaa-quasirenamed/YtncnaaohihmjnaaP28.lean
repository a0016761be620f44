/- The walks of allBelow, twice and Check. -/
import Derived.Test.YtncnaaohihmjnaaPList
import Derived.Deep.QuietTactic
import Derived.BigQuiet
namespace Go.Proofs.Ytncnaaohihmjnaa
open Go.RowKit

end Go.Proofs.Ytncnaaohihmjnaa
