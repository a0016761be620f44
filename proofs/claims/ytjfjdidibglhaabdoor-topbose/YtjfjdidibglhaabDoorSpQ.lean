/- Gauss's numbers as they are counted: cut off above a bound (the program), and -1 above it (the document); nothing of the program. -/
/- Gauss's numbers: Pascal's rule, the product, both ends alike; nothing of the program. -/
namespace Go.Proofs.YtjfjdidibglhaabDoor

/-- Gauss's numbers by Pascal's rule. -/
def gs (q : Nat) : Nat → Nat → Nat
  | _, 0 => 1
  | 0, _ + 1 => 0
  | n + 1, k + 1 => q ^ (k + 1) * gs q n (k + 1) + gs q n k
end Go.Proofs.YtjfjdidibglhaabDoor

namespace Go.Proofs.YtjfjdidibglhaabDoor

/-- Cut off. -/
def cO (x : Nat) : Nat := min x 1000000000000000001
theorem cO_le (x : Nat) : cO x ≤ 1000000000000000001 := Nat.min_le_right _ _
theorem cO_small {x : Nat} (h : x ≤ 1000000000000000000) : cO x = x := by unfold cO; omega
theorem gt_div {a b n : Nat} (ha : 0 < a) : n / a < b ↔ n < a * b := by rw [Nat.div_lt_iff_lt_mul ha, Nat.mul_comm]
theorem cO_prod (a b : Nat) : cO (cO a * cO b) = cO (a * b) := by
  unfold cO
  by_cases ha : a ≤ 1000000000000000001
  · rw [Nat.min_eq_left ha]
    by_cases hb : b ≤ 1000000000000000001
    · rw [Nat.min_eq_left hb]
    · rw [Nat.min_eq_right (show 1000000000000000001 ≤ b by omega)]
      rcases Nat.eq_zero_or_pos a with e | e
      · subst e; simp
      · have h1 : 1000000000000000001 ≤ a * 1000000000000000001 := Nat.le_mul_of_pos_left _ e
        have h2 : b ≤ a * b := Nat.le_mul_of_pos_left _ e
        omega
  · rw [Nat.min_eq_right (by omega : 1000000000000000001 ≤ a)]
    rcases Nat.eq_zero_or_pos b with e | e
    · subst e; simp
    · have h0 : 0 < min b 1000000000000000001 := by omega
      have h1 : 1000000000000000001 ≤ 1000000000000000001 * min b 1000000000000000001 := Nat.le_mul_of_pos_right _ h0
      have h2 : a ≤ a * b := Nat.le_mul_of_pos_right _ e
      omega
/-- The program's product. -/
def prO (a b : Nat) : Nat := if 0 < a ∧ 1000000000000000001 / a < b then 1000000000000000001 else a * b
theorem prO_is (a b : Nat) : prO a b = cO (a * b) := by
  unfold prO cO
  by_cases h : 0 < a ∧ 1000000000000000001 / a < b
  · rw [if_pos h]
    have := (gt_div h.1).1 h.2
    omega
  · rw [if_neg h]
    rcases Nat.eq_zero_or_pos a with e | e
    · subst e; simp
    · have : ¬ 1000000000000000001 < a * b := fun k => h ⟨e, (gt_div e).2 k⟩
      omega
theorem prO_cO (a b : Nat) : prO (cO a) (cO b) = cO (a * b) := by rw [prO_is, cO_prod]
theorem cO_pow (q i : Nat) : prO (cO (q ^ i)) (cO q) = cO (q ^ (i + 1)) := by rw [prO_cO, Nat.pow_succ]
end Go.Proofs.YtjfjdidibglhaabDoor
