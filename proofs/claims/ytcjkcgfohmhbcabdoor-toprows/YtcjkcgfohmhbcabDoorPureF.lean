/- What is left of a division is short. -/
import Derived.Test.YtcjkcgfohmhbcabDoorPureE
namespace Go.Proofs.YtcjkcgfohmhbcabDoor.Fd
theorem redN_zero {m : Nat → Int} {d : Nat} {p : Int} (hm : m d = 1) : ∀ (n : Nat) (f : Nat → Int) (t : Nat), d ≤ t → t < d + n → redN m d p n f t = 0
  | 0, _, _, h1, h2 => absurd h2 (by omega)
  | n + 1, f, t, h1, h2 => by
    show redN m d p n (rd f m d p (d + n)) t = 0
    by_cases e : t = d + n
    · subst e
      rw [redN_over n _ _ (Nat.le_refl _)]
      unfold rd
      rw [if_pos (by omega), show d + n - (d + n - d) = d by omega, hm, Int.mul_one, Int.sub_self]
      rfl
    · exact redN_zero hm n _ t h1 (by omega)
end Go.Proofs.YtcjkcgfohmhbcabDoor.Fd
