/- The walks of Number, Size, In and Product of the document's answer. -/
import Derived.Test.YtgpkhfpejopacabDoorBaseB
import Derived.Test.YtgpkhfpejopacabDoorW51
import Derived.Test.YtgpkhfpejopacabDoorPureE
import Derived.BigRegion
import Derived.Laws.CopyOwn
namespace Go.Proofs.YtgpkhfpejopacabDoor.Fd
open Go.RowKit

set_option maxRecDepth 100000 in
set_option maxHeartbeats 400000 in
theorem size_any (p k : Int) (v : Value) (w : World) :
    Calls Tryd.prog 9 #[.agg #[.int .i64 p, .int .i64 k, v]] w fun e w' => e = .returned (.int .i64 (ordZ p k)) ∧ Below w.heap.size w w' := by
  go_enter Tryd.func9, Tryd.ntmps9
  go_wp2_with (go_at_call 17; refine (orderOf_any p k _).mono ?_; rintro e w' ⟨rfl, rfl⟩)
  go_ret
  exact ⟨rfl, (Below.refl _ _).alloc (Nat.le_refl _) _⟩

def inB (q a : Int) : Bool := decide (0 ≤ a) && decide (a < q)
end Go.Proofs.YtgpkhfpejopacabDoor.Fd
