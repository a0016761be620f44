/- Sums of integers. Nothing of the program. -/
import Derived.RowKit
namespace Go.Proofs.Ytjfjdidibglhaab

/-- A number as an element. -/
def nR : Nat → Int
  | 0 => 0
  | n + 1 => nR n + 1
/-- A sum of n elements. -/
def sR : Nat → (Nat → Int) → Int
  | 0, _ => 0
  | n + 1, f => sR n f + f n
theorem sR_congr {f g : Nat → Int} : ∀ {n : Nat}, (∀ i, i < n → f i = g i) → sR n f = sR n g
  | 0, _ => rfl
  | n + 1, h => by rw [sR, sR, sR_congr fun i hi => h i (by omega), h n (by omega)]
theorem sR_nil : ∀ n, sR n (fun _ => (0 : Int)) = 0
  | 0 => rfl
  | n + 1 => by rw [sR, sR_nil n]; grind
theorem sR_add (f g : Nat → Int) : ∀ n, sR n (fun i => f i + g i) = sR n f + sR n g
  | 0 => by simp only [sR]; grind
  | n + 1 => by rw [sR, sR, sR, sR_add f g n]; grind
theorem sR_mul (c : Int) (f : Nat → Int) : ∀ n, sR n (fun i => c * f i) = c * sR n f
  | 0 => by simp only [sR]; grind
  | n + 1 => by rw [sR, sR, sR_mul c f n]; grind
theorem sR_two (x1 x2 : Int) (f1 f2 : Nat → Int) (n : Nat) : sR n (fun h => x1 * f1 h + x2 * f2 h) = x1 * sR n f1 + x2 * sR n f2 := by
  rw [sR_add (fun h => x1 * f1 h), sR_mul, sR_mul]
def idR (a b : Nat) : Int := if a = b then 1 else 0
theorem sR_id (F : Nat → Int) (a : Nat) : ∀ n, sR n (fun h => idR a h * F h) = if a < n then F a else 0
  | 0 => by simp [sR]
  | n + 1 => by
    rw [sR, sR_id F a n]
    unfold idR
    by_cases h : a = n
    · subst h
      rw [if_neg (by omega), if_pos rfl, if_pos (by omega)]
      grind
    · rw [if_neg h]
      by_cases h2 : a < n
      · rw [if_pos h2, if_pos (by omega)]; grind
      · rw [if_neg h2, if_neg (by omega)]; grind
theorem sR_one : ∀ n, sR n (fun _ => (1 : Int)) = nR n
  | 0 => rfl
  | n + 1 => by rw [sR, sR_one n, nR]
theorem sR_three (x1 x2 x3 : Int) (f1 f2 f3 : Nat → Int) (n : Nat) : sR n (fun h => x1 * f1 h + x2 * f2 h + x3 * f3 h) = x1 * sR n f1 + x2 * sR n f2 + x3 * sR n f3 := by
  rw [sR_add (fun h => x1 * f1 h + x2 * f2 h), sR_two, sR_mul]
theorem sR_nonneg {f : Nat → Int} : ∀ {n : Nat}, (∀ i, i < n → 0 ≤ f i) → 0 ≤ sR n f
  | 0, _ => Int.le_refl _
  | n + 1, h => by
    have h1 := sR_nonneg (n := n) fun i hi => h i (by omega)
    have h2 := h n (by omega)
    rw [sR]; omega
theorem sR_mono {f g : Nat → Int} : ∀ {n : Nat}, (∀ i, i < n → f i ≤ g i) → sR n f ≤ sR n g
  | 0, _ => Int.le_refl _
  | n + 1, h => by
    have h1 := sR_mono (n := n) fun i hi => h i (by omega)
    have h2 := h n (by omega)
    rw [sR, sR]; omega
theorem nR_int : ∀ n : Nat, (nR n : Int) = n
  | 0 => rfl
  | n + 1 => by rw [nR, nR_int n]; simp
theorem sR_int (c : Int) (n : Nat) : sR n (fun _ => c) = n * c := by
  have e : sR n (fun _ => c) = sR n (fun _ => c * 1) := sR_congr fun _ _ => by omega
  rw [e, sR_mul, sR_one, nR_int, Int.mul_comm]
theorem sR_swap (f : Nat → Nat → Int) (m : Nat) : ∀ n, sR n (fun i => sR m (fun j => f i j)) = sR m (fun j => sR n (fun i => f i j))
  | 0 => by simp only [sR]; rw [sR_nil]
  | n + 1 => by
    rw [sR, sR_swap f m n, ← sR_add]
    exact sR_congr fun j _ => rfl
theorem id_self (a : Nat) : (idR a a : Int) = 1 := if_pos rfl
theorem sq_nn (x : Int) : 0 ≤ x * x := by
  rcases (show 0 ≤ x ∨ x ≤ 0 by omega) with h | h
  · exact Int.mul_nonneg h h
  · exact Int.mul_nonneg_of_nonpos_of_nonpos h h
end Go.Proofs.Ytjfjdidibglhaab
