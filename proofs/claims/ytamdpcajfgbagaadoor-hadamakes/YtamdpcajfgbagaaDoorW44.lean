/- The walks of add and mul. -/
import Derived.Test.YtamdpcajfgbagaaDoorW36
import Derived.Test.YtamdpcajfgbagaaDoorW59
import Derived.Deep.RegionHeld3
namespace Go.Proofs.YtamdpcajfgbagaaDoor.Fd
open Go.RowKit

theorem keepS {w W W1 : World} {g : Nat} {x : Value} (h : W.cell? ⟨g, 0, none⟩ = some x ∧ Below w.heap.size w W) (hb : Below W.heap.size W W1) : W1.cell? ⟨g, 0, none⟩ = some x ∧ Below w.heap.size w W1 :=
  ⟨(hb.cell (p := ⟨g, 0, none⟩) (block_lt_of_cell h.1)).trans h.1, h.2.trans (hb.mono h.2.size)⟩

end Go.Proofs.YtamdpcajfgbagaaDoor.Fd
