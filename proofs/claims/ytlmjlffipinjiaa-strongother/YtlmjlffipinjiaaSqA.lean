/- The walk of the document's Squares, for two squares alike. -/
import Derived.Test.YtlmjlffipinjiaaPBase
import Derived.Test.YtlmjlffipinjiaaP14
namespace Go.Proofs.Ytlmjlffipinjiaa
open Go.RowKit

set_option maxHeartbeats 4000000 in
theorem Squares_same (s : Int) (L : List Int) (u v : Value) (w : World) (hu : Sl w u L) (hv : Sl w v L) (hL : L.length ≤ maxLen) :
    Calls Try.prog 12 #[.agg #[.int .i64 s, u], .agg #[.int .i64 s, v]] w fun e w' => e = .returned (.bool true) ∧ Below w.heap.size w w' := by
  have C : Hid (∀ W, Below w.heap.size w W → Calls Try.prog 25 #[u, v] W fun e w' => ∃ b : Bool, e = .returned (.bool b) ∧ (b = true ↔ L = L) ∧ Below W.heap.size W w') := fun W bW => ints_any L L u v W (hu.below bW) (hv.below bW) hL hL
  have h1 : ((w.alloc (.cells #[.int .i64 s, u] 24)).alloc (.cells #[.int .i64 s, v] 24)).heap[w.heap.size]? = some (.cells #[.int .i64 s, u] 24 (0, 0)) := (Below.heap_alloc _ _ _ (by simp)).trans (heap_alloc_new w _)
  have h2 : ((w.alloc (.cells #[.int .i64 s, u] 24)).alloc (.cells #[.int .i64 s, v] 24)).heap[w.heap.size + 1]? = some (.cells #[.int .i64 s, v] 24 (0, 0)) := by
    have := heap_alloc_new (w.alloc (.cells #[.int .i64 s, u] 24)) (.cells #[.int .i64 s, v] 24)
    simpa using this
  have hsz : ((w.alloc (.cells #[.int .i64 s, u] 24)).alloc (.cells #[.int .i64 s, v] 24)).heap.size = w.heap.size + 1 + 1 := by simp
  have hb : Below w.heap.size w ((w.alloc (.cells #[.int .i64 s, u] 24)).alloc (.cells #[.int .i64 s, v] 24)) := Below.next (balloc _ _) (balloc _ _)
  have D := C.out _ hb
  have hss : (s == s) = true := by simp
  clear hu hv
  go_enter Try.func12, Try.ntmps12
  go_wp2_with (go_at_call 25; refine D.mono ?_; rintro e w1 ⟨b, rfl, hbb, b1⟩; obtain rfl : b = true := hbb.2 rfl; have k1 := (b1.block w.heap.size (by rw [hsz]; omega)).trans h1; have k2 := (b1.block (w.heap.size + 1) (by rw [hsz]; omega)).trans h2; have x0 : w1.cell? ⟨w.heap.size, 0, none⟩ = some (.int .i64 s) := (by rw [cell_of_row _ _ _ _ _ _ k1]; rfl); have y0 : w1.cell? ⟨w.heap.size + 1, 0, none⟩ = some (.int .i64 s) := (by rw [cell_of_row _ _ _ _ _ _ k2]; rfl))
  go_ret
  exact ⟨rfl, Below.next hb b1⟩
end Go.Proofs.Ytlmjlffipinjiaa
