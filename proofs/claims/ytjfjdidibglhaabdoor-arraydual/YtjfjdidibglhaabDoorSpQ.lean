/- Gauss's numbers as they are counted: cut off above a bound (the program), and -1 above it (the document); nothing of the program. -/
/- Gauss's numbers: Pascal's rule, the product, both ends alike; nothing of the program. -/
namespace Go.Proofs.YtjfjdidibglhaabDoor

/-- Gauss's numbers by Pascal's rule. -/
def gs (q : Nat) : Nat → Nat → Nat
  | _, 0 => 1
  | 0, _ + 1 => 0
  | n + 1, k + 1 => q ^ (k + 1) * gs q n (k + 1) + gs q n k
theorem gs_zero (q n : Nat) : gs q n 0 = 1 := by cases n <;> rfl
theorem gs_succ (q n k : Nat) : gs q (n + 1) (k + 1) = q ^ (k + 1) * gs q n (k + 1) + gs q n k := rfl
theorem gs_gt (q : Nat) : ∀ n k, n < k → gs q n k = 0
  | 0, k + 1, _ => rfl
  | n + 1, k + 1, h => by rw [gs_succ, gs_gt q n (k + 1) (by omega), gs_gt q n k (by omega)]; simp
theorem gs_self (q : Nat) : ∀ n, gs q n n = 1
  | 0 => rfl
  | n + 1 => by rw [gs_succ, gs_gt q n (n + 1) (by omega), gs_self q n]; simp
theorem gs_pos {q : Nat} (hq : 1 ≤ q) : ∀ n k, k ≤ n → 1 ≤ gs q n k
  | n, 0, _ => by rw [gs_zero]; exact Nat.le_refl _
  | n + 1, k + 1, h => by
    rw [gs_succ]
    have := gs_pos hq n k (by omega)
    omega
/-- The product above, and that below. -/
def gnum (q n : Nat) : Nat → Nat
  | 0 => 1
  | k + 1 => gnum q n k * (q ^ (n - k) - 1)
def gden (q : Nat) : Nat → Nat
  | 0 => 1
  | k + 1 => gden q k * (q ^ (k + 1) - 1)
theorem gnum_shift (q n : Nat) : ∀ k, gnum q (n + 1) (k + 1) = (q ^ (n + 1) - 1) * gnum q n k
  | 0 => by simp [gnum]
  | k + 1 => by
    show gnum q (n + 1) (k + 1) * (q ^ (n + 1 - (k + 1)) - 1) = (q ^ (n + 1) - 1) * (gnum q n k * (q ^ (n - k) - 1))
    rw [gnum_shift q n k, show n + 1 - (k + 1) = n - k by omega, Nat.mul_assoc]
theorem gnum_gt (q n : Nat) : ∀ k, n < k → gnum q n k = 0
  | 0, h => by omega
  | k + 1, h => by
    show gnum q n k * (q ^ (n - k) - 1) = 0
    rw [show n - k = 0 by omega]
    simp
theorem gs_prod {q : Nat} (hq : 1 ≤ q) : ∀ n k, gs q n k * gden q k = gnum q n k
  | n, 0 => by rw [gs_zero]; rfl
  | 0, k + 1 => by
    rw [gnum_gt q 0 (k + 1) (by omega)]
    show 0 * _ = 0
    simp
  | n + 1, k + 1 => by
    have h1 := gs_prod hq n (k + 1)
    have h2 := gs_prod hq n k
    rw [gs_succ, gnum_shift, Nat.add_mul, Nat.mul_assoc, h1]
    show q ^ (k + 1) * (gnum q n k * (q ^ (n - k) - 1)) + gs q n k * (gden q k * (q ^ (k + 1) - 1)) = _
    rw [← Nat.mul_assoc (gs q n k), h2]
    by_cases hk : k ≤ n
    · have e : q ^ (n + 1) = q ^ (k + 1) * q ^ (n - k) := by rw [← Nat.pow_add]; congr 1; omega
      have hA : 1 ≤ q ^ (k + 1) := Nat.pow_pos hq
      have hB : 1 ≤ q ^ (n - k) := Nat.pow_pos hq
      obtain ⟨a, ha⟩ : ∃ a, q ^ (k + 1) = a + 1 := ⟨q ^ (k + 1) - 1, by omega⟩
      obtain ⟨b, hb⟩ : ∃ b, q ^ (n - k) = b + 1 := ⟨q ^ (n - k) - 1, by omega⟩
      rw [e, ha, hb, Nat.add_sub_cancel, Nat.add_sub_cancel, show (a + 1) * (b + 1) - 1 = a * b + a + b by rw [Nat.add_mul, Nat.mul_add]; omega]
      grind
    · rw [gnum_gt q n k (by omega)]
      simp
theorem gden_pos {q : Nat} (hq : 2 ≤ q) : ∀ k, 1 ≤ gden q k
  | 0 => Nat.le_refl _
  | k + 1 => by
    have h1 := gden_pos hq k
    have h2 : 2 ≤ q ^ (k + 1) := Nat.le_trans hq (Nat.le_self_pow (by omega) q)
    exact Nat.mul_pos h1 (by omega)
theorem gnum_den (q : Nat) : ∀ n k, k ≤ n → gnum q n k * gden q (n - k) = gden q n
  | n, 0, _ => by simp [gnum]
  | n + 1, k + 1, h => by
    rw [gnum_shift, show n + 1 - (k + 1) = n - k by omega, Nat.mul_assoc, gnum_den q n k (by omega), Nat.mul_comm]
    rfl
theorem gs_den {q n k : Nat} (hq : 1 ≤ q) (h : k ≤ n) : gs q n k * (gden q k * gden q (n - k)) = gden q n := by
  rw [← Nat.mul_assoc, gs_prod hq, gnum_den q n k h]
theorem gs_symm {q n k : Nat} (hq : 2 ≤ q) (h : k ≤ n) : gs q n (n - k) = gs q n k := by
  have h1 := gs_den (q := q) (by omega) h
  have h2 := gs_den (q := q) (n := n) (k := n - k) (by omega) (by omega)
  rw [show n - (n - k) = k by omega, Nat.mul_comm (gden q (n - k))] at h2
  exact Nat.eq_of_mul_eq_mul_right (Nat.mul_pos (gden_pos hq k) (gden_pos hq (n - k))) (h2.trans h1.symm)
/-- The other rule of Pascal's kind. -/
theorem gs_other {q n k : Nat} (hq : 2 ≤ q) (h : k + 1 ≤ n) : gs q (n + 1) (k + 1) = gs q n (k + 1) + q ^ (n - k) * gs q n k := by
  rw [← gs_symm hq (show k + 1 ≤ n + 1 by omega), show n + 1 - (k + 1) = (n - k - 1) + 1 by omega, gs_succ, show n - k - 1 + 1 = n - k by omega,
    gs_symm hq (show k ≤ n by omega), show n - k - 1 = n - (k + 1) by omega, gs_symm hq h, Nat.add_comm]
theorem gs_le {q n k : Nat} (hq : 1 ≤ q) : gs q n k ≤ gs q (n + 1) k := by
  cases k with
  | zero => rw [gs_zero, gs_zero]; exact Nat.le_refl _
  | succ k =>
    rw [gs_succ]
    have h : 1 ≤ q ^ (k + 1) := Nat.pow_pos hq
    have := Nat.mul_le_mul_right (gs q n (k + 1)) h
    omega
/-- The product step by step, from above: each step is a whole number. -/
theorem gs_step {q n k : Nat} (hq : 2 ≤ q) : gs q n (k + 1) * (q ^ (k + 1) - 1) = gs q n k * (q ^ (n - k) - 1) := by
  have h1 := gs_prod (q := q) (by omega) n (k + 1)
  have h2 := gs_prod (q := q) (by omega) n k
  have e : gs q n (k + 1) * (q ^ (k + 1) - 1) * gden q k = gs q n k * (q ^ (n - k) - 1) * gden q k := by
    have a1 : gs q n (k + 1) * (q ^ (k + 1) - 1) * gden q k = gs q n (k + 1) * gden q (k + 1) := by
      show _ = gs q n (k + 1) * (gden q k * (q ^ (k + 1) - 1))
      rw [Nat.mul_assoc, Nat.mul_comm (q ^ (k + 1) - 1)]
    have a2 : gs q n k * (q ^ (n - k) - 1) * gden q k = gnum q n (k + 1) := by
      show _ = gnum q n k * (q ^ (n - k) - 1)
      rw [← h2, Nat.mul_right_comm]
    rw [a1, a2, h1]
  exact Nat.eq_of_mul_eq_mul_right (gden_pos hq k) e
end Go.Proofs.YtjfjdidibglhaabDoor

namespace Go.Proofs.YtjfjdidibglhaabDoor

/-- Cut off. -/
def cO (x : Nat) : Nat := min x 1000000000000000001
theorem cO_le (x : Nat) : cO x ≤ 1000000000000000001 := Nat.min_le_right _ _
theorem cO_sum (a b : Nat) : min (cO a + cO b) 1000000000000000001 = cO (a + b) := by unfold cO; omega
theorem cO_big {x : Nat} : 1000000000000000000 < cO x ↔ 1000000000000000000 < x := by unfold cO; omega
theorem cO_small {x : Nat} (h : x ≤ 1000000000000000000) : cO x = x := by unfold cO; omega
theorem gt_div {a b n : Nat} (ha : 0 < a) : n / a < b ↔ n < a * b := by rw [Nat.div_lt_iff_lt_mul ha, Nat.mul_comm]
theorem cO_prod (a b : Nat) : cO (cO a * cO b) = cO (a * b) := by
  unfold cO
  by_cases ha : a ≤ 1000000000000000001
  · rw [Nat.min_eq_left ha]
    by_cases hb : b ≤ 1000000000000000001
    · rw [Nat.min_eq_left hb]
    · rw [Nat.min_eq_right (show 1000000000000000001 ≤ b by omega)]
      rcases Nat.eq_zero_or_pos a with e | e
      · subst e; simp
      · have h1 : 1000000000000000001 ≤ a * 1000000000000000001 := Nat.le_mul_of_pos_left _ e
        have h2 : b ≤ a * b := Nat.le_mul_of_pos_left _ e
        omega
  · rw [Nat.min_eq_right (by omega : 1000000000000000001 ≤ a)]
    rcases Nat.eq_zero_or_pos b with e | e
    · subst e; simp
    · have h0 : 0 < min b 1000000000000000001 := by omega
      have h1 : 1000000000000000001 ≤ 1000000000000000001 * min b 1000000000000000001 := Nat.le_mul_of_pos_right _ h0
      have h2 : a ≤ a * b := Nat.le_mul_of_pos_right _ e
      omega
/-- The program's product. -/
def prO (a b : Nat) : Nat := if 0 < a ∧ 1000000000000000001 / a < b then 1000000000000000001 else a * b
theorem prO_is (a b : Nat) : prO a b = cO (a * b) := by
  unfold prO cO
  by_cases h : 0 < a ∧ 1000000000000000001 / a < b
  · rw [if_pos h]
    have := (gt_div h.1).1 h.2
    omega
  · rw [if_neg h]
    rcases Nat.eq_zero_or_pos a with e | e
    · subst e; simp
    · have : ¬ 1000000000000000001 < a * b := fun k => h ⟨e, (gt_div e).2 k⟩
      omega
theorem prO_cO (a b : Nat) : prO (cO a) (cO b) = cO (a * b) := by rw [prO_is, cO_prod]
/-- The document's: -1 above the bound. -/
def upT (x : Nat) : Int := if x ≤ 1000000000000000000 then (x : Int) else -1
theorem upT_neg {x : Nat} : upT x < 0 ↔ 1000000000000000000 < x := by unfold upT; split <;> omega
theorem upT_nonneg {x : Nat} : 0 ≤ upT x ↔ x ≤ 1000000000000000000 := by unfold upT; split <;> omega
theorem upT_le (x : Nat) : -1 ≤ upT x ∧ upT x ≤ 1000000000000000000 := by unfold upT; split <;> omega
theorem upT_small {x : Nat} (h : x ≤ 1000000000000000000) : upT x = x := by unfold upT; rw [if_pos h]
theorem upT_big {x : Nat} (h : 1000000000000000000 < x) : upT x = -1 := by unfold upT; rw [if_neg (by omega)]
theorem upT_big_mul {a b : Nat} (hb : 1 ≤ b) (h : 1000000000000000000 < a) : 1000000000000000000 < a * b := Nat.lt_of_lt_of_le h (Nat.le_mul_of_pos_right _ hb)
/-- What the program has in counts. -/
def cnG (q m i : Nat) : Nat := cO (gs q m i)
theorem cnG_step (q m i : Nat) : min (prO (cO (q ^ (i + 1))) (cnG q m (i + 1)) + cnG q m i) 1000000000000000001 = cnG q (m + 1) (i + 1) := by
  unfold cnG
  rw [prO_cO, cO_sum, gs_succ]
theorem cO_pow (q i : Nat) : prO (cO (q ^ i)) (cO q) = cO (q ^ (i + 1)) := by rw [prO_cO, Nat.pow_succ]
end Go.Proofs.YtjfjdidibglhaabDoor
