/- Colourings counted by kinds: nothing is too great; nothing of the program. -/
import Derived.Test.YtgpkhfpejopacabGreatDoorZCKind
import Derived.Test.YtgpkhfpejopacabGreatDoorZCRing
namespace Go.Proofs.YtgpkhfpejopacabGreatDoor.Gc

theorem kd_le {n : Nat} {a : List Nat} (ha : IsP n a) (hn : n ≤ 7) : (kd n a).sum ≤ 7 := by
  rw [kd_sum ha hn]
  unfold leads
  have := List.length_filter_le (leadB n (fnL a)) (List.range n)
  rw [List.length_range] at this
  omega
theorem natcast_sum : ∀ L : List Nat, ((L.sum : Nat) : Int) = (L.map fun x : Nat => (x : Int)).sum
  | [] => rfl
  | x :: L => by rw [List.sum_cons, List.map_cons, List.sum_cons, Int.natCast_add, natcast_sum L]

end Go.Proofs.YtgpkhfpejopacabGreatDoor.Gc
