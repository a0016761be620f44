/- The walk of root. -/
import Derived.Test.YthdjionamhekfaaDoorW54
namespace Go.Proofs.YthdjionamhekfaaDoor
open Go.RowKit

theorem RB.all {w W : World} {P K Q : Int} {m : Nat → Int} (h : RB W w.heap.size P K Q m) (hB : Below w.heap.size w W) : W.cell? ⟨w.heap.size, 0, none⟩ = some (.int .i64 P) ∧ W.cell? ⟨w.heap.size, 1, none⟩ = some (.int .i64 K) ∧ W.cell? ⟨w.heap.size, 2, none⟩ = some (.int .i64 Q) ∧ W.cell? ⟨w.heap.size, 3, none⟩ = some (.int .i64 (m 0)) ∧ W.cell? ⟨w.heap.size, 4, none⟩ = some (.int .i64 (m 1)) ∧ W.cell? ⟨w.heap.size, 5, none⟩ = some (.int .i64 (m 2)) ∧ W.cell? ⟨w.heap.size, 6, none⟩ = some (.int .i64 (m 3)) ∧ W.cell? ⟨w.heap.size, 7, none⟩ = some (.int .i64 (m 4)) ∧ W.cell? ⟨w.heap.size, 8, none⟩ = some (.int .i64 (m 5)) ∧ W.cell? ⟨w.heap.size, 9, none⟩ = some (.int .i64 (m 6)) ∧ W.cell? ⟨w.heap.size, 10, none⟩ = some (.int .i64 (m 7)) ∧ W.cell? ⟨w.heap.size, 11, none⟩ = some (.int .i64 (m 8)) ∧ W.cell? ⟨w.heap.size, 12, none⟩ = some (.int .i64 (m 9)) ∧ W.cell? ⟨w.heap.size, 13, none⟩ = some (.int .i64 (m 10)) ∧ Below w.heap.size w W :=
  ⟨(cell_of_row W w.heap.size 0 _ _ _ h), (cell_of_row W w.heap.size 1 _ _ _ h), (cell_of_row W w.heap.size 2 _ _ _ h), (cell_of_row W w.heap.size 3 _ _ _ h), (cell_of_row W w.heap.size 4 _ _ _ h), (cell_of_row W w.heap.size 5 _ _ _ h), (cell_of_row W w.heap.size 6 _ _ _ h), (cell_of_row W w.heap.size 7 _ _ _ h), (cell_of_row W w.heap.size 8 _ _ _ h), (cell_of_row W w.heap.size 9 _ _ _ h), (cell_of_row W w.heap.size 10 _ _ _ h), (cell_of_row W w.heap.size 11 _ _ _ h), (cell_of_row W w.heap.size 12 _ _ _ h), (cell_of_row W w.heap.size 13 _ _ _ h), hB⟩

end Go.Proofs.YthdjionamhekfaaDoor
