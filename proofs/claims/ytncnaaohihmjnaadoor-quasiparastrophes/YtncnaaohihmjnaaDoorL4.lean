/- The walks of the document's once, LatinFault. -/
import Derived.Test.YtncnaaohihmjnaaDoorL3
import Derived.Deep.QuietTactic
import Derived.BigQuiet
namespace Go.Proofs.YtncnaaohihmjnaaDoor
open Go.RowKit

theorem wrap99 {q : Nat} (h : q ≤ 99) : IntKind.i64.wrap (q : Int) = (q : Int) := by rw [IntKind.wrap_i64]; omega

end Go.Proofs.YtncnaaohihmjnaaDoor
