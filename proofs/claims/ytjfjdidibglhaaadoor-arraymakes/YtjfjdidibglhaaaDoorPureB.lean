/- Plain facts on dividing rows, as the document's answer divides them. -/
import Derived.Test.YtjfjdidibglhaaaDoorPure
namespace Go.Proofs.YtjfjdidibglhaaaDoor.Fd

theorem monL_append (l : List Int) (j : Nat) (h : j < l.length + 1) : (l ++ [1]).getD j 0 = monL l j := by
  unfold monL
  by_cases e : j < l.length
  · rw [if_pos e, List.getD_eq_getElem?_getD, List.getElem?_append_left e, ← List.getD_eq_getElem?_getD]
  · rw [if_neg e, if_pos (by omega), List.getD_eq_getElem?_getD, List.getElem?_append_right (by omega), show j - l.length = 0 by omega]
    rfl
theorem monL_in {l : List Int} {p : Int} (hp : 2 ≤ p) (h : ∀ j, j < l.length → 0 ≤ l.getD j 0 ∧ l.getD j 0 < p) : inP p (monL l) := by
  intro t
  unfold monL
  split
  · exact h t (by assumption)
  · split <;> omega
theorem monL_low (l : List Int) (j : Nat) (h : j < l.length) : monL l j = l.getD j 0 := by unfold monL; rw [if_pos h]
theorem monL_top (l : List Int) : monL l l.length = 1 := by unfold monL; rw [if_neg (by omega), if_pos rfl]

/-- The step of dividing as the document's answer has it: 0 is put at i first, then the places below are done. -/
def stTo (f m : Nat → Int) (d : Nat) (p : Int) (i j : Nat) : Nat → Int := upd (rdTo f m d p i j) i 0
theorem stTo_zero (f m : Nat → Int) (d : Nat) (p : Int) (i t : Nat) : upd f i 0 t = stTo f m d p i 0 t := by
  unfold stTo upd; rw [rdTo_zero]
theorem stTo_at (f m : Nat → Int) (d : Nat) (p : Int) (i j : Nat) (hi : d ≤ i) (hj : j < d) : stTo f m d p i j (i - d + j) = f (i - d + j) := by
  unfold stTo upd; rw [if_neg (by omega), rdTo_at]
theorem stTo_succ (f m : Nat → Int) (d : Nat) (p : Int) (i j : Nat) (v : Int) (hi : d ≤ i) (hj : j < d) (hv : v = (f (i - d + j) - f i * m j) % p) (t : Nat) :
    upd (stTo f m d p i j) (i - d + j) v t = stTo f m d p i (j + 1) t := by
  have h := rdTo_succ f m d p i j v hv t
  unfold stTo
  by_cases e : t = i
  · subst e
    unfold upd; rw [if_neg (by omega), if_pos rfl, if_pos rfl]
  · have h2 : upd (rdTo f m d p i (j + 1)) i 0 t = rdTo f m d p i (j + 1) t := by unfold upd; rw [if_neg e]
    rw [h2, ← h]
    unfold upd
    by_cases e2 : t = i - d + j
    · rw [if_pos e2, if_pos e2]
    · rw [if_neg e2, if_neg e2, if_neg e]
theorem stTo_full (f m : Nat → Int) (d : Nat) (p : Int) (i : Nat) (hi : d ≤ i) (hm : m d = 1) (t : Nat) : stTo f m d p i d t = rd f m d p i t := by
  unfold stTo upd
  by_cases e : t = i
  · subst e
    rw [if_pos rfl]
    unfold rd
    rw [if_pos (by omega), show t - (t - d) = d by omega, hm, Int.mul_one, Int.sub_self]
    rfl
  · rw [if_neg e]
    unfold rdTo rd
    by_cases h : i - d ≤ t ∧ t ≤ i
    · rw [if_pos h, if_pos (by omega)]
    · rw [if_neg h, if_neg (by omega)]
theorem tmod_fix (x p : Int) : (x.tmod p + p) % p = x % p := by
  rw [Int.add_emod_right]
  have : x = p * x.tdiv p + x.tmod p := (Int.mul_tdiv_add_tmod x p).symm
  conv => rhs; rw [this]
  rw [Int.add_comm, Int.add_mul_emod_self_left]
theorem tmod_emod (x p : Int) : x.tmod p % p = x % p := by
  have h := tmod_fix x p
  rwa [Int.add_emod_right] at h
theorem tmod_bd (x p : Int) (hp : 0 < p) : -p < x.tmod p ∧ x.tmod p < p := by
  constructor
  · have h1 := Int.emod_nonneg x (show p ≠ 0 by omega); have h2 := Int.emod_lt_of_pos x hp; rw [Int.tmod_eq_emod]; split <;> omega
  · exact Int.tmod_lt_of_pos x hp

end Go.Proofs.YtjfjdidibglhaaaDoor.Fd
