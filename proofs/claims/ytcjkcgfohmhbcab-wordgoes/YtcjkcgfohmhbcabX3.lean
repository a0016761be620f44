/- The landed Gray, walked. -/
import Derived.Test.YtcjkcgfohmhbcabWA
import Derived.Test.YtcjkcgfohmhbcabX1
namespace Go.Proofs.Ytcjkcgfohmhbcab
open Go.RowKit

def nV (x : Nat) : Value := .int .i64 (x : Int)
/-- A made row of one's own is a word. -/
theorem OwV.wd {w : World} {g n : Nat} {f : Nat → Nat} (h : OwV 3 nV w g n f) {M : List Nat} {m c : Nat} (hm : M.length = m) (hmn : m ≤ n) (hc : m ≤ c) (e : ∀ j, j < m → M.getD j 0 = f j) : Wd w (.slice (some ⟨g, 0, none⟩) m c) M := by
  subst hm
  refine ⟨_, c, rfl, hc, fun j hj => ⟨g, 0, rfl, ?_⟩⟩
  rw [Nat.zero_add, h.cell j (by omega), e j hj]; rfl
theorem run_makeN (n : Nat) (hn : n ≤ 100000) (w : World) : (Instr.makeSlice 23 (.int .i64 (n : Int)) (.int .i64 (n : Int))).run Try.prog w = .ok (.slice (some ⟨w.heap.size, 0, none⟩) n n) (w.alloc (.cells (madeCells #[.int .i64 0] n) 3)) := by
  obtain ⟨i3, hi, hz0, hz1, hz2⟩ := info3
  have h := run_make (P := Try.prog) w 23 3 i3 (.int .i64 0) und22 hi hz0 .i64 .i64 n n (by omega) (by omega) (by rw [hz2]; omega) (by omega)
  simpa [hz1, Value.cells] using h
def grF (i : Nat) : Nat → Nat := fun j => if j < i then j ^^^ j / 2 else 0
theorem grF_set (i : Nat) : updV (grF i) i (i ^^^ i / 2) = grF (i + 1) := by
  funext j
  unfold updV grF
  by_cases e : j = i
  · rw [if_pos e, if_pos (by omega), e]
  · rw [if_neg e]
    by_cases h : j < i
    · rw [if_pos h, if_pos (by omega)]
    · rw [if_neg h, if_neg (by omega)]
end Go.Proofs.Ytcjkcgfohmhbcab
