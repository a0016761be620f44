/- The walk of PeriodOf: the document's word on when a row comes again. -/
import Derived.Test.YtcjkcgfohmhbcabDoorR26
import Derived.Test.YtcjkcgfohmhbcabDoorR27
import Derived.Test.YtcjkcgfohmhbcabDoorRPer
import Derived.OwnWalk
/- The walks of Number and States of the document's answer. -/
namespace Go.Proofs.YtcjkcgfohmhbcabDoor.Rc
open Go.RowKit

end Go.Proofs.YtcjkcgfohmhbcabDoor.Rc

/- The walk of RowOf: the document's row. -/
namespace Go.Proofs.YtcjkcgfohmhbcabDoor.Rc
open Go.RowKit

end Go.Proofs.YtcjkcgfohmhbcabDoor.Rc

namespace Go.Proofs.YtcjkcgfohmhbcabDoor.Rc
open Go.RowKit

theorem own_made' {w : World} {base g n : Nat} (h : w.ownsRow base 3 1 (.slice (some ⟨g, 0, none⟩) n n) n (madeCells #[Value.int .i64 0] n).toList) : Own w g n (fun _ => 0) := by
  obtain ⟨_, ⟨h1, _⟩ | ⟨g', cap, cur, e, hb, hg, h2, h3, h4, ht⟩⟩ := h
  · cases h1
  · cases e
    refine ⟨cur, hg, fun j hj => ?_⟩
    have e2 : (cur.toList.take (n * 1))[j]? = ((madeCells #[Value.int .i64 0] n).toList)[j]? := by rw [ht]
    rw [List.getElem?_take, if_pos (by omega)] at e2
    rw [← Array.getElem?_toList, e2]
    simp [madeCells, hj, Nat.mod_one]
end Go.Proofs.YtcjkcgfohmhbcabDoor.Rc
