/- A matrix doubled, cell by cell; nothing of the program. -/
import Derived.Test.YtamdpcajfgbagaaDoorHdF
namespace Go.Proofs.YtamdpcajfgbagaaDoor

theorem two_mod {n r : Nat} (h : r < 2 * n) : (r < n ∧ r % n = r) ∨ (n ≤ r ∧ r % n = r - n) := by
  by_cases h1 : r < n
  · exact .inl ⟨h1, Nat.mod_eq_of_lt h1⟩
  · refine .inr ⟨by omega, ?_⟩
    have e : r = (r - n) + n := by omega
    rw [e, Nat.add_mod_right, Nat.mod_eq_of_lt (by omega)]
    omega
/-- What stands in the doubled matrix when so many cells were looked at. -/
def stS (n : Nat) (T : Nat → Nat → Int) (m k : Nat) : Int := if (k / (2 * n) % n) * n + k % (2 * n) % n < m then T (k / (2 * n)) (k % (2 * n)) else 0
def up1 (f : Nat → Int) (i : Nat) (v : Int) : Nat → Int := fun j => if j = i then v else f j
theorem stS_step {n a b k : Nat} {T : Nat → Nat → Int} (ha : a < n) (hb : b < n) (hk : k < 2 * n * (2 * n)) (e1 : T a (n + b) = T a b) (e2 : T (n + a) b = T a b) (e3 : T (n + a) (n + b) = - T a b) :
    up1 (up1 (up1 (up1 (stS n T (a * n + b)) (a * (2 * n) + b) (T a b)) (a * (2 * n) + (n + b)) (T a b)) ((n + a) * (2 * n) + b) (T a b)) ((n + a) * (2 * n) + (n + b)) (- T a b) k = stS n T (a * n + b + 1) k := by
  have hn : 0 < n := by omega
  have hd := Nat.div_add_mod' k (2 * n)
  have hc : k % (2 * n) < 2 * n := Nat.mod_lt _ (by omega)
  have hr : k / (2 * n) < 2 * n := Nat.div_lt_of_lt_mul hk
  have hB : (n + a) * (2 * n) = n * (2 * n) + a * (2 * n) := Nat.add_mul _ _ _
  have hC : 2 * n ≤ n * (2 * n) := Nat.le_mul_of_pos_left _ hn
  simp only [up1, stS]
  generalize k / (2 * n) = r at *
  generalize k % (2 * n) = c at *
  by_cases h : r % n = a ∧ c % n = b
  · have hR : r % n * n + c % n < a * n + b + 1 := by rw [h.1, h.2]; omega
    rw [if_pos hR]
    clear hR
    have hr' : r = a ∨ r = n + a := by rcases two_mod hr with ⟨x, y⟩ | ⟨x, y⟩ <;> omega
    have hc' : c = b ∨ c = n + b := by rcases two_mod hc with ⟨x, y⟩ | ⟨x, y⟩ <;> omega
    rcases hr' with rfl | rfl <;> rcases hc' with rfl | rfl
    · rw [if_neg (by omega), if_neg (by omega), if_neg (by omega), if_pos (by omega)]
    · rw [if_neg (by omega), if_neg (by omega), if_pos (by omega), e1]
    · rw [if_neg (by omega), if_pos (by omega), e2]
    · rw [if_pos (by omega), e3]
  · have key : ∀ r' c', r' < 2 * n → c' < 2 * n → r' % n = a → c' % n = b → k ≠ r' * (2 * n) + c' := fun r' c' h1 h2 h3 h4 e => by
      have d1 := dm (2 * n) (by omega) (a := r) hc
      have d2 := dm (2 * n) (by omega) (a := r') h2
      rw [hd] at d1
      rw [← e] at d2
      have : r = r' := d1.1.symm.trans d2.1
      have : c = c' := d1.2.symm.trans d2.2
      subst_vars
      exact h ⟨rfl, rfl⟩
    have ma : (n + a) % n = a := by rw [Nat.add_mod_left, Nat.mod_eq_of_lt ha]
    have mb : (n + b) % n = b := by rw [Nat.add_mod_left, Nat.mod_eq_of_lt hb]
    rw [if_neg (key _ _ (by omega) (by omega) ma mb), if_neg (key _ _ (by omega) (by omega) ma (Nat.mod_eq_of_lt hb)), if_neg (key _ _ (by omega) (by omega) (Nat.mod_eq_of_lt ha) mb), if_neg (key _ _ (by omega) (by omega) (Nat.mod_eq_of_lt ha) (Nat.mod_eq_of_lt hb))]
    have ne : r % n * n + c % n ≠ a * n + b := fun e => by
      have d1 := dm n hn (a := r % n) (Nat.mod_lt c hn)
      have d2 := dm n hn (a := a) hb
      rw [e] at d1
      exact h ⟨d1.1.symm.trans d2.1, d1.2.symm.trans d2.2⟩
    by_cases h5 : r % n * n + c % n < a * n + b
    · rw [if_pos h5, if_pos (by omega)]
    · rw [if_neg h5, if_neg (by omega)]
theorem stS_zero (n : Nat) (T : Nat → Nat → Int) (k : Nat) : stS n T 0 k = 0 := by unfold stS; rw [if_neg (Nat.not_lt_zero _)]
theorem stS_full {n k : Nat} (T : Nat → Nat → Int) (hn : 0 < n) : stS n T (n * n) k = T (k / (2 * n)) (k % (2 * n)) := by
  unfold stS
  rw [if_pos (cell_ltH (Nat.mod_lt _ hn) (Nat.mod_lt _ hn))]
end Go.Proofs.YtamdpcajfgbagaaDoor
