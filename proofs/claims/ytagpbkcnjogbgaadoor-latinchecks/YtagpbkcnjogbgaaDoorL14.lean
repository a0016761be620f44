/- The walks of Intercalates, Transversals. -/
import Derived.Test.YtagpbkcnjogbgaaDoorL3
import Derived.Test.YtagpbkcnjogbgaaDoorL10
import Derived.Test.YtagpbkcnjogbgaaDoorL11
namespace Go.Proofs.YtagpbkcnjogbgaaDoor
open Go.RowKit

/-- A square in a box, as it is read later. -/
theorem one_box (s : Int) (u : Value) (w : World) : ∀ W, Below (w.alloc (.cells #[.int .i64 s, u] 24)).heap.size (w.alloc (.cells #[.int .i64 s, u] 24)) W →
    W.cell? ⟨w.heap.size, 0, none⟩ = some (.int .i64 s) ∧ W.cell? ⟨w.heap.size, 1, none⟩ = some u ∧ W.rangeAt w.heap.size 0 [.int .i64 s, u] := fun W b => by
  have k1 := (b.block w.heap.size (by simp)).trans (heap_alloc_new w (.cells #[.int .i64 s, u] 24))
  have c0 : W.cell? ⟨w.heap.size, 0, none⟩ = some (.int .i64 s) := by rw [cell_of_row _ _ _ _ _ _ k1]; rfl
  have c1 : W.cell? ⟨w.heap.size, 1, none⟩ = some u := by rw [cell_of_row _ _ _ _ _ _ k1]; rfl
  exact ⟨c0, c1, range_two W _ _ _ c0 c1⟩

end Go.Proofs.YtagpbkcnjogbgaaDoor
