/- The systems that are made: reckoned. -/
import Derived.Test.YtdeofjmgjhfkcabDoorD1
import Derived.Test.YtdeofjmgjhfkcabDoorTKi
namespace Go.Proofs.YtdeofjmgjhfkcabDoor
open Go.RowKit

theorem docB0 : chkB 3 (docB 0) = true := by kernel_rfl
theorem docB1 : chkB 9 (docB 1) = true := by kernel_rfl
theorem docB2 : chkB 15 (docB 2) = true := by kernel_rfl
theorem docB3 : chkB 21 (docB 3) = true := by kernel_rfl
theorem docB4 : chkB 27 (docB 4) = true := by kernel_rfl
theorem docB5 : chkB 33 (docB 5) = true := by kernel_rfl
theorem docK0 : chkB 1 (docK 0) = true := by kernel_rfl
theorem docK1 : chkB 7 (docK 1) = true := by kernel_rfl
theorem docK2 : chkB 13 (docK 2) = true := by kernel_rfl
theorem docK3 : chkB 19 (docK 3) = true := by kernel_rfl
theorem docK4 : chkB 25 (docK 4) = true := by kernel_rfl
theorem docK5 : chkB 31 (docK 5) = true := by kernel_rfl

end Go.Proofs.YtdeofjmgjhfkcabDoor
