/- The document's RingsOf, walked. -/
import Derived.Test.YtgkfddcmngodgabU2
namespace Go.Proofs.Ytgkfddcmngodgab
open Go.RowKit

/-- Rings of three. -/
def rT (t : Nat → Nat → Bool) (a b c : Nat) : Nat := if (t a b == t b c && t b c == t c a) then 1 else 0
def rC (t : Nat → Nat → Bool) (a b k : Nat) : Nat := sumL ((List.range' (b + 1) k).map (rT t a b))
def rB (n : Nat) (t : Nat → Nat → Bool) (a k : Nat) : Nat := sumL ((List.range' (a + 1) k).map fun b => rC t a b (n - (b + 1)))
def rA (n : Nat) (t : Nat → Nat → Bool) (k : Nat) : Nat := sumL ((List.range k).map fun a => rB n t a (n - (a + 1)))
theorem rC_more (t : Nat → Nat → Bool) (a b k : Nat) : rC t a b (k + 1) = rC t a b k + rT t a b (b + 1 + k) := by
  unfold rC; rw [List.range'_1_concat, List.map_append, sumL_append]; simp [sumL]
theorem rB_more (n : Nat) (t : Nat → Nat → Bool) (a k : Nat) : rB n t a (k + 1) = rB n t a k + rC t a (a + 1 + k) (n - (a + 1 + k + 1)) := by
  unfold rB; rw [List.range'_1_concat, List.map_append, sumL_append]; simp [sumL]
theorem rA_more (n : Nat) (t : Nat → Nat → Bool) (k : Nat) : rA n t (k + 1) = rA n t k + rB n t k (n - (k + 1)) := by
  unfold rA; rw [List.range_succ, List.map_append, sumL_append]; simp [sumL]
theorem rT_le (t : Nat → Nat → Bool) (a b c : Nat) : rT t a b c ≤ 1 := by unfold rT; split <;> omega
/-- The box of a table. -/
theorem sq_box (s : Int) (u : Value) (w : World) : ∀ W, Below (w.alloc (.cells #[.int .i64 s, u] 24)).heap.size (w.alloc (.cells #[.int .i64 s, u] 24)) W → W.heap[w.heap.size]? = some (.cells #[.int .i64 s, u] 24) := fun W b => (b.block w.heap.size (by simp)).trans (heap_alloc_new w (.cells #[.int .i64 s, u] 24))
end Go.Proofs.Ytgkfddcmngodgab
