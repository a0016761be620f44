/- Gauss's numbers as they are counted: cut off above a bound (the program), and -1 above it (the document); nothing of the program. -/
import Derived.Test.YtjfjdidibglhaabSpG
namespace Go.Proofs.Ytjfjdidibglhaab

/-- Cut off. -/
def cO (x : Nat) : Nat := min x 1000000000000000001
theorem cO_le (x : Nat) : cO x ≤ 1000000000000000001 := Nat.min_le_right _ _
theorem cO_sum (a b : Nat) : min (cO a + cO b) 1000000000000000001 = cO (a + b) := by unfold cO; omega
theorem cO_big {x : Nat} : 1000000000000000000 < cO x ↔ 1000000000000000000 < x := by unfold cO; omega
theorem cO_small {x : Nat} (h : x ≤ 1000000000000000000) : cO x = x := by unfold cO; omega
theorem gt_div {a b n : Nat} (ha : 0 < a) : n / a < b ↔ n < a * b := by rw [Nat.div_lt_iff_lt_mul ha, Nat.mul_comm]
theorem cO_prod (a b : Nat) : cO (cO a * cO b) = cO (a * b) := by
  unfold cO
  by_cases ha : a ≤ 1000000000000000001
  · rw [Nat.min_eq_left ha]
    by_cases hb : b ≤ 1000000000000000001
    · rw [Nat.min_eq_left hb]
    · rw [Nat.min_eq_right (show 1000000000000000001 ≤ b by omega)]
      rcases Nat.eq_zero_or_pos a with e | e
      · subst e; simp
      · have h1 : 1000000000000000001 ≤ a * 1000000000000000001 := Nat.le_mul_of_pos_left _ e
        have h2 : b ≤ a * b := Nat.le_mul_of_pos_left _ e
        omega
  · rw [Nat.min_eq_right (by omega : 1000000000000000001 ≤ a)]
    rcases Nat.eq_zero_or_pos b with e | e
    · subst e; simp
    · have h0 : 0 < min b 1000000000000000001 := by omega
      have h1 : 1000000000000000001 ≤ 1000000000000000001 * min b 1000000000000000001 := Nat.le_mul_of_pos_right _ h0
      have h2 : a ≤ a * b := Nat.le_mul_of_pos_right _ e
      omega
/-- The program's product. -/
def prO (a b : Nat) : Nat := if 0 < a ∧ 1000000000000000001 / a < b then 1000000000000000001 else a * b
theorem prO_is (a b : Nat) : prO a b = cO (a * b) := by
  unfold prO cO
  by_cases h : 0 < a ∧ 1000000000000000001 / a < b
  · rw [if_pos h]
    have := (gt_div h.1).1 h.2
    omega
  · rw [if_neg h]
    rcases Nat.eq_zero_or_pos a with e | e
    · subst e; simp
    · have : ¬ 1000000000000000001 < a * b := fun k => h ⟨e, (gt_div e).2 k⟩
      omega
theorem prO_cO (a b : Nat) : prO (cO a) (cO b) = cO (a * b) := by rw [prO_is, cO_prod]
/-- The document's: -1 above the bound. -/
def upT (x : Nat) : Int := if x ≤ 1000000000000000000 then (x : Int) else -1
theorem upT_neg {x : Nat} : upT x < 0 ↔ 1000000000000000000 < x := by unfold upT; split <;> omega
theorem upT_nonneg {x : Nat} : 0 ≤ upT x ↔ x ≤ 1000000000000000000 := by unfold upT; split <;> omega
theorem upT_le (x : Nat) : -1 ≤ upT x ∧ upT x ≤ 1000000000000000000 := by unfold upT; split <;> omega
theorem upT_small {x : Nat} (h : x ≤ 1000000000000000000) : upT x = x := by unfold upT; rw [if_pos h]
theorem upT_big {x : Nat} (h : 1000000000000000000 < x) : upT x = -1 := by unfold upT; rw [if_neg (by omega)]
theorem upT_big_mul {a b : Nat} (hb : 1 ≤ b) (h : 1000000000000000000 < a) : 1000000000000000000 < a * b := Nat.lt_of_lt_of_le h (Nat.le_mul_of_pos_right _ hb)
/-- What the program has in counts. -/
def cnG (q m i : Nat) : Nat := cO (gs q m i)
theorem cnG_step (q m i : Nat) : min (prO (cO (q ^ (i + 1))) (cnG q m (i + 1)) + cnG q m i) 1000000000000000001 = cnG q (m + 1) (i + 1) := by
  unfold cnG
  rw [prO_cO, cO_sum, gs_succ]
theorem cO_pow (q i : Nat) : prO (cO (q ^ i)) (cO q) = cO (q ^ (i + 1)) := by rw [prO_cO, Nat.pow_succ]
end Go.Proofs.Ytjfjdidibglhaab
