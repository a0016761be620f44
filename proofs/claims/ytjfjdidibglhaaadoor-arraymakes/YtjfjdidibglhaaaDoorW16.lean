/- The walks of Least and of LeastField: the first field of an order. -/
import Derived.Test.YtjfjdidibglhaaaDoorW40
import Derived.Test.YtjfjdidibglhaaaDoorW42
import Derived.Test.YtjfjdidibglhaaaDoorW43
import Derived.Test.YtjfjdidibglhaaaDoorW9
import Derived.Test.YtjfjdidibglhaaaDoorPureD
namespace Go.Proofs.YtjfjdidibglhaaaDoor.Fd
open Go.RowKit

theorem one3 (p k : Int) (v : Value) (h : v.oneCell' = true) : (#[.int .i64 p, .int .i64 k, v] : Array Value).all (·.oneCell') = true := by
  have h1 : ∀ z : Int, (Value.int .i64 z).oneCell' = true := fun _ => rfl
  simp [h, h1]

end Go.Proofs.YtjfjdidibglhaaaDoor.Fd
