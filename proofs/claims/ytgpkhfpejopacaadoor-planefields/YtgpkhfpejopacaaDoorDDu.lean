/- The walk of the document's DualOf. -/
import Derived.Test.YtgpkhfpejopacaaDoorDCo
import Derived.Test.YtgpkhfpejopacaaDoorDPart
namespace Go.Proofs.YtgpkhfpejopacaaDoor
open Go.RowKit

/-- The blocks that have a point. -/
def dz (B : List (List Nat)) (x : Nat) : List Nat := (List.range B.length).filter fun i => (B.getD i []).contains x
set_option maxRecDepth 100000 in
theorem post_d2 {fn : Func} {R : Ending → World → Prop} {a : Act} {w : World} {g : Nat} {x y z : Value} (slot u : Tmp) (hres : fn.results = #[.cell slot 29, .tmp u]) (hp : a.tmps.getD slot undef = .pointer (some ⟨g, 0, none⟩)) (hr : w.heap[g]? = some (.cells #[x, y] 29 (0, 0))) (hu : a.tmps.getD u undef = z) (hd : a.defers = []) (hR : R (.returned (.tuple #[.agg #[x, y], z])) w) : bodyPost Tryd.prog fn R .ret a w := by
  refine bodyPost_ret (v := .tuple #[.agg #[x, y], z]) ?_ hd hR
  rw [results_cell_tmp hres, hp, hu]
  have h1 : (asAddr (.pointer (some ⟨g, 0, none⟩))).run Tryd.prog w = .ok ⟨g, 0, none⟩ w := by simp [asAddr]
  rw [h1]
  show ((loadVar 29 ⟨g, 0, none⟩).run Tryd.prog w).andThen _ = _
  rw [run_loadVar_row w g 29 29 #[x, y] (0, 0) _ hr Tryd.underlying29 rfl inf24]
  rfl
end Go.Proofs.YtgpkhfpejopacaaDoor
