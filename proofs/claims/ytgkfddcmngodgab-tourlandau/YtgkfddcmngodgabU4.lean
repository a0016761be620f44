/- The document's KingsOf, walked. -/
import Derived.Test.YtgkfddcmngodgabU3
namespace Go.Proofs.Ytgkfddcmngodgab
open Go.RowKit

/-- Kings, as they are looked for. -/
def thB (t : Nat → Nat → Bool) (a c k : Nat) : Bool := (c == a || t a c) || (List.range k).any fun b => t a b && t b c
def kgB (n : Nat) (t : Nat → Nat → Bool) (a k : Nat) : Bool := (List.range k).all fun c => thB t a c n
def kgL (n : Nat) (t : Nat → Nat → Bool) (k : Nat) : List Nat := (List.range k).filter fun a => kgB n t a n
theorem thB_more (t : Nat → Nat → Bool) (a c k : Nat) : thB t a c (k + 1) = (thB t a c k || (t a k && t k c)) := by
  unfold thB; rw [List.range_succ, List.any_append]; simp [Bool.or_assoc]
theorem thB_zero (t : Nat → Nat → Bool) (a c : Nat) : thB t a c 0 = (c == a || t a c) := by unfold thB; simp
theorem kgB_more (n : Nat) (t : Nat → Nat → Bool) (a k : Nat) : kgB n t a (k + 1) = (kgB n t a k && thB t a k n) := by
  unfold kgB; rw [List.range_succ, List.all_append]; simp
theorem kgL_more (n : Nat) (t : Nat → Nat → Bool) (k : Nat) : kgL n t (k + 1) = kgL n t k ++ if kgB n t k n then [k] else [] := by
  unfold kgL; rw [List.range_succ, List.filter_append]; simp [List.filter_cons]
theorem kgL_le (n : Nat) (t : Nat → Nat → Bool) (k : Nat) : (kgL n t k).length ≤ k := by
  unfold kgL; exact Nat.le_trans (List.length_filter_le _ _) (by simp)
end Go.Proofs.Ytgkfddcmngodgab
