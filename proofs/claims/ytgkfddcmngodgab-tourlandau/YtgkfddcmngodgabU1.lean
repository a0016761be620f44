/- The document's TourFault and Beats, walked. -/
import Derived.Test.YtgkfddcmngodgabTrF
import Derived.Test.YtgkfddcmngodgabTrK
import Derived.Test.YtgkfddcmngodgabDOw
namespace Go.Proofs.Ytgkfddcmngodgab
open Go.RowKit

theorem sq_cells (s : Int) (u : Value) (w : World) : ∀ W, Below (w.alloc (.cells #[.int .i64 s, u] 24)).heap.size (w.alloc (.cells #[.int .i64 s, u] 24)) W → W.cell? ⟨w.heap.size, 0, none⟩ = some (.int .i64 s) ∧ W.cell? ⟨w.heap.size, 1, none⟩ = some u := fun W b => by
  have k := (b.block w.heap.size (by simp)).trans (heap_alloc_new w (.cells #[.int .i64 s, u] 24))
  exact ⟨by rw [cell_of_row _ _ _ _ _ _ k]; rfl, by rw [cell_of_row _ _ _ _ _ _ k]; rfl⟩
/-- A table's cells as they are read. -/
theorem sl_all {w : World} {v : Value} {l : List Int} (h : Sl w v l) (h0 : 0 < l.length) : ∃ b o c, v = .slice (some ⟨b, o, none⟩) l.length c ∧ ∀ W, Below w.heap.size w W → ∀ j, j < l.length → W.cell? ⟨b, o + j, none⟩ = some (.int .i64 (l.getD j 0)) := by
  obtain ⟨b, o, c, e, _, hk⟩ := h.form rfl h0
  exact ⟨b, o, c, e, fun W hW j hj => (hW.cell (World.block_lt_of_cell? _ _ (hk j hj))).trans (hk j hj)⟩
end Go.Proofs.Ytgkfddcmngodgab
