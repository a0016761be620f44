/- The walk of LeastField: the first field of an order, as the document's answer has it. -/
import Derived.Test.YtjfjdidibglhaabDoorW16
namespace Go.Proofs.YtjfjdidibglhaabDoor.Fd
open Go.RowKit

theorem fault_dig {P K n : Nat} {z : Int} (hP : 2 ≤ P) (h0 : ordZ (P : Int) K ≠ 0) (hn : n < P ^ K) (h : FaultIs P K (digL n P K) z) : z = 0 ↔ goodAt P K n := by
  have hin : inL (P : Int) (digL n P K) := fun j hj => by
    rw [digL_length] at hj
    rw [digL_at _ _ _ _ hj]; exact digF_in n P (by omega) j
  have hlen : ((digL n P K).length : Int) = K := by rw [digL_length]
  unfold goodAt
  rw [← monL_dig n P K hP hn]
  unfold FaultIs at h
  rw [Int.toNat_natCast, Int.toNat_natCast] at h
  rcases h with ⟨a, _⟩ | ⟨_, b, _⟩ | ⟨_, _, c, _⟩ | ⟨_, _, _, d, rfl⟩ | ⟨_, _, _, d, rfl⟩
  · exact absurd a h0
  · exact absurd hlen b
  · exact absurd hin c
  · exact ⟨fun h => absurd h (by decide), fun h => absurd h d⟩
  · exact ⟨fun _ => d, fun _ => rfl⟩

end Go.Proofs.YtjfjdidibglhaabDoor.Fd
