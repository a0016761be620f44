/- The walk of the document's Together. -/
import Derived.Test.YtamdpcajfgbagaaDLw
import Derived.Test.YtamdpcajfgbagaaDFish
namespace Go.Proofs.Ytamdpcajfgbagaa
open Go.RowKit

theorem mt_take {b c : List Nat} {j : Nat} (hj : j < b.length) : mt (b.take (j + 1)) c = mt (b.take j) c + if c.contains (b.getD j 0) = true then 1 else 0 := by
  unfold mt
  rw [List.take_add_one, List.getElem?_eq_getElem hj, List.countP_append, List.getD_eq_getElem?_getD, List.getElem?_eq_getElem hj]
  simp [List.countP_cons]
end Go.Proofs.Ytamdpcajfgbagaa
