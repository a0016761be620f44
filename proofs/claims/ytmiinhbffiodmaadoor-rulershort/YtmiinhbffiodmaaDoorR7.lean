/- The walk of the document's BestOf. -/
import Derived.Test.YtmiinhbffiodmaaDoorR6
namespace Go.Proofs.YtmiinhbffiodmaaDoor
open Go.RowKit Go.Maps

theorem sl_zero (w : World) : Sl (w.alloc (.cells #[.int .i64 0] 3)) (.slice (some ⟨w.heap.size, 0, none⟩) 1 1) (([0] : List Nat).map Int.ofNat) :=
  ORo.sl (base := w.heap.size) (l := [0]) ⟨rfl, .inr ⟨w.heap.size, 1, _, rfl, Nat.le_refl _, heap_alloc_new w _, Nat.le_refl _, by unfold maxLen; omega, rfl, rfl⟩⟩
end Go.Proofs.YtmiinhbffiodmaaDoor
