/- The laws' own ring of three; kings said plainly. -/
import Derived.Test.YtgkfddcmngodgabU5
import Derived.Laws.ResultCell
namespace Go.Proofs.Ytgkfddcmngodgab
open Go.RowKit

theorem inf24 : (Try.prog.info? 24).map (·.size) = some 2 := by kernel_rfl
theorem post_sq {fn : Func} {R : Ending → World → Prop} {a : Act} {w : World} {g : Nat} {x y : Value} (slot : Tmp) (hres : fn.results = #[.cell slot 24]) (hp : a.tmps.getD slot undef = .pointer (some ⟨g, 0, none⟩)) (hr : w.heap[g]? = some (.cells #[x, y] 24 (0, 0))) (hd : a.defers = []) (hR : R (.returned (.agg #[x, y])) w) : bodyPost Try.prog fn R .ret a w :=
  bodyPost_ret (results_cell_row hres a.tmps w g 24 #[x, y] (0, 0) _ hp hr Try.underlying24 rfl inf24) hd hR
set_option maxRecDepth 100000 in
set_option maxHeartbeats 16000000 in
theorem ring3_any (w : World) : Calls Try.prog 8 #[] w fun e w' => (∃ y, e = .returned (.agg #[.int .i64 3, y]) ∧ Sl w' y [0, 1, 0, 0, 0, 1, 1, 0, 0]) ∧ Below w.heap.size w w' := by
  go_enter Try.func8, Try.ntmps8
  go_wp2
  refine post_sq (y := .slice (some ⟨w.heap.size + 1, 0, none⟩) 9 9) 0 rfl rfl (g := w.heap.size) ?_ rfl ⟨⟨_, rfl, ?_⟩, Below.next (balloc w _) (balloc _ _)⟩
  · exact (Below.heap_alloc _ _ _ (by simp)).trans (heap_alloc_new w _)
  · refine ⟨_, _, rfl, fun j hj => ⟨_, _, rfl, ?_⟩⟩
    have k := heap_alloc_new (w.alloc (.cells #[.int .i64 3, .slice (some ⟨w.heap.size + 1, 0, none⟩) 9 9] 24)) (.cells #[.int .i64 0, .int .i64 1, .int .i64 0, .int .i64 0, .int .i64 0, .int .i64 1, .int .i64 1, .int .i64 0, .int .i64 0] 3)
    rw [show (w.alloc (.cells #[.int .i64 3, .slice (some ⟨w.heap.size + 1, 0, none⟩) 9 9] 24)).heap.size = w.heap.size + 1 by simp] at k
    rw [cell_of_row _ _ _ _ _ _ k]
    match j, hj with
    | 0, _ => rfl
    | 1, _ => rfl
    | 2, _ => rfl
    | 3, _ => rfl
    | 4, _ => rfl
    | 5, _ => rfl
    | 6, _ => rfl
    | 7, _ => rfl
    | 8, _ => rfl
    | j + 9, hj => simp at hj; omega
end Go.Proofs.Ytgkfddcmngodgab
