/- The walk of the document's TripleFault. -/
import Derived.Test.YtdeofjmgjhfkcabDoorC1
namespace Go.Proofs.YtdeofjmgjhfkcabDoor
open Go.RowKit

def cnT (B : List (List Nat)) (x y i : Nat) : Nat := (B.take i).countP fun b => b.contains x && b.contains y
theorem cnT_all (B : List (List Nat)) (x y : Nat) : cnT B x y B.length = nb B [x, y] := by
  unfold cnT nb
  rw [List.take_length]
  exact List.countP_congr fun b _ => by simp
theorem cnT_succ {B : List (List Nat)} {x y i : Nat} {b : List Nat} (h : B[i]? = some b) : cnT B x y (i + 1) = cnT B x y i + if (b.contains x && b.contains y) = true then 1 else 0 := by
  unfold cnT
  rw [List.take_add_one, h, List.countP_append]
  simp [List.countP_cons]
theorem cnT_le (B : List (List Nat)) (x y i : Nat) : cnT B x y i ≤ i := by
  unfold cnT
  have := List.countP_le_length (p := fun b : List Nat => b.contains x && b.contains y) (l := B.take i)
  rw [List.length_take] at this
  omega
theorem sys_of {v : Nat} {B : List (List Nat)} (G : GoodD v B) (h3 : ∀ b ∈ B, b.length = 3) (h : ∀ x, x < v → ∀ y, y < x → nb B [x, y] = 1) : Sys v B := by
  refine ⟨G.bls, h3, fun p q hp hq hn => ?_⟩
  rcases Nat.lt_or_gt_of_ne hn with e | e
  · rw [nb_swap]; exact h q hq p e
  · exact h p hp q e
end Go.Proofs.YtdeofjmgjhfkcabDoor
