/- The program's kings, walked. -/
import Derived.Test.YtgkfddcmngodgabN3
namespace Go.Proofs.Ytgkfddcmngodgab
open Go.RowKit

def byB (t : Nat → Nat → Bool) (a c k : Nat) : Bool := (List.range k).any fun b => t a b && t b c
theorem byB_more (t : Nat → Nat → Bool) (a c k : Nat) : byB t a c (k + 1) = (byB t a c k || (t a k && t k c)) := by
  unfold byB; rw [List.range_succ, List.any_append]; simp
theorem byB_yes {t : Nat → Nat → Bool} {a c k n : Nat} (hk : k < n) (h : (t a k && t k c) = true) : byB t a c n = true := by
  unfold byB; rw [List.any_eq_true]; exact ⟨k, List.mem_range.2 hk, h⟩
theorem thB_by (t : Nat → Nat → Bool) (a c k : Nat) : thB t a c k = ((c == a || t a c) || byB t a c k) := rfl
theorem kgB_no {n : Nat} {t : Nat → Nat → Bool} {a c : Nat} (hc : c < n) (h : thB t a c n = false) : kgB n t a n = false := by
  cases e : kgB n t a n with
  | false => rfl
  | true =>
    unfold kgB at e
    rw [List.all_eq_true] at e
    rw [e c (List.mem_range.2 hc)] at h
    cases h
end Go.Proofs.Ytgkfddcmngodgab
