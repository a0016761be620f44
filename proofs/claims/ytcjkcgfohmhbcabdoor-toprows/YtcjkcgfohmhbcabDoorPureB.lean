/- Plain facts on dividing rows, as the document's answer divides them. -/
import Derived.Test.YtcjkcgfohmhbcabDoorPure
namespace Go.Proofs.YtcjkcgfohmhbcabDoor.Fd

theorem monL_in {l : List Int} {p : Int} (hp : 2 ≤ p) (h : ∀ j, j < l.length → 0 ≤ l.getD j 0 ∧ l.getD j 0 < p) : inP p (monL l) := by
  intro t
  unfold monL
  split
  · exact h t (by assumption)
  · split <;> omega
theorem monL_low (l : List Int) (j : Nat) (h : j < l.length) : monL l j = l.getD j 0 := by unfold monL; rw [if_pos h]
theorem monL_top (l : List Int) : monL l l.length = 1 := by unfold monL; rw [if_neg (by omega), if_pos rfl]

end Go.Proofs.YtcjkcgfohmhbcabDoor.Fd
