/- Gauss's numbers of one row are the numbers of directions; nothing of the program. -/
import Derived.Test.YtgdkfbgehbdkjabDoorSpG
import Derived.Test.YtgdkfbgehbdkjabDoorV4
namespace Go.Proofs.YtgdkfbgehbdkjabDoor

theorem rep_gs (P : Nat) : ∀ n, rep P n = gs P n 1
  | 0 => rfl
  | n + 1 => by
    have h := gs_succ P n 0
    rw [h, gs_zero, ← rep_gs P n]
    simp [rep, Nat.mul_comm]
end Go.Proofs.YtgdkfbgehbdkjabDoor
