/- The document's way to a basis: all lists are looked at; nothing of the program. -/
import Derived.Test.YtjfjdidibglhaabDoorSpD
namespace Go.Proofs.YtjfjdidibglhaabDoor
variable {q n : Nat} {ad mu : Nat → Nat → Nat} {ng : Nat → Nat}

theorem only_one {α : Type} {l : List α} {a : α} (nd : l.Nodup) (h : ∀ x, x ∈ l ↔ x = a) : l = [a] := by
  match l, nd, h with
  | [], _, h => exact absurd ((h a).2 rfl) (by simp)
  | [x], _, h => rw [(h x).1 (by simp)]
  | x :: y :: l, nd, h =>
    have e1 := (h x).1 (by simp)
    have e2 := (h y).1 (by simp)
    rw [e1, e2] at nd
    simp at nd
end Go.Proofs.YtjfjdidibglhaabDoor
