/- Contrasts of s levels (Helmert's): orthogonal to each other. Nothing of the program. -/
import Derived.Test.YtjfjdidibglhaabRaO
namespace Go.Proofs.Ytjfjdidibglhaab
/-- 1 everywhere; or 1 below a, -a at a, and 0. -/
def heG (a x : Nat) : Int := if a = 0 then 1 else if x < a then 1 else if x = a then -(a : Int) else 0
theorem he_zero (x : Nat) : heG 0 x = 1 := if_pos rfl
theorem he_low {a x : Nat} (h : x < a) : heG a x = 1 := by unfold heG; rw [if_neg (by omega), if_pos h]
theorem he_at {a : Nat} (h : 1 ≤ a) : heG a a = -(a : Int) := by unfold heG; rw [if_neg (by omega), if_neg (by omega), if_pos rfl]
theorem he_high {a x : Nat} (h0 : 1 ≤ a) (h : a < x) : heG a x = 0 := by unfold heG; rw [if_neg (by omega), if_neg (by omega), if_neg (by omega)]
theorem he_part {a : Nat} (h : 1 ≤ a) : ∀ n, sR n (heG a) = if n ≤ a then (n : Int) else 0
  | 0 => by rw [if_pos (by omega)]; rfl
  | n + 1 => by
    rw [sR, he_part h n]
    rcases (show n < a ∨ n = a ∨ a < n by omega) with k | k | k
    · rw [if_pos (by omega), he_low k, if_pos (by omega)]; omega
    · subst k; rw [if_pos (by omega), he_at h, if_neg (by omega)]; omega
    · rw [if_neg (by omega), he_high h k, if_neg (by omega)]; rfl
theorem he_mul {a b : Nat} (h : a < b) (h1 : 1 ≤ a) : ∀ n, sR n (fun x => heG a x * heG b x) = if n ≤ a then (n : Int) else 0
  | 0 => by rw [if_pos (by omega)]; rfl
  | n + 1 => by
    rw [sR, he_mul h h1 n]
    rcases (show n < a ∨ n = a ∨ a < n by omega) with k | k | k
    · rw [if_pos (by omega), he_low k, he_low (show n < b by omega), if_pos (by omega)]; omega
    · subst k; rw [if_pos (by omega), he_at h1, he_low h, if_neg (by omega)]; omega
    · rw [if_neg (by omega), he_high h1 k, if_neg (by omega)]; omega
theorem he_orth {s a b : Nat} (ha : a < s) (hb : b < s) (hne : a ≠ b) : sR s (fun x => heG a x * heG b x) = 0 := by
  have half : ∀ {a b : Nat}, a < b → b < s → sR s (fun x => heG a x * heG b x) = 0 := fun {a b} h hb => by
    by_cases h0 : a = 0
    · subst h0
      have e : sR s (fun x => heG 0 x * heG b x) = sR s (heG b) := sR_congr fun x _ => by rw [he_zero]; omega
      rw [e, he_part (by omega), if_neg (by omega)]
    · rw [he_mul h (by omega), if_neg (by omega)]
  rcases (show a < b ∨ b < a by omega) with h | h
  · exact half h hb
  · rw [← half h ha]
    exact sR_congr fun x _ => Int.mul_comm _ _
/-- What a contrast comes to with itself. -/
def heN (s a : Nat) : Nat := if a = 0 then s else a * (a + 1)
theorem he_sq {a : Nat} (h : 1 ≤ a) : ∀ n, sR n (fun x => heG a x * heG a x) = if n ≤ a then (n : Int) else (a : Int) * (a + 1)
  | 0 => by rw [if_pos (by omega)]; rfl
  | n + 1 => by
    rw [sR, he_sq h n]
    rcases (show n < a ∨ n = a ∨ a < n by omega) with k | k | k
    · rw [if_pos (by omega), he_low k, if_pos (by omega)]; omega
    · subst k; rw [if_pos (by omega), he_at h, if_neg (by omega)]; grind
    · rw [if_neg (by omega), he_high h k, if_neg (by omega)]; omega
theorem he_norm {s a : Nat} (ha : a < s) : sR s (fun x => heG a x * heG a x) = heN s a := by
  unfold heN
  by_cases h0 : a = 0
  · subst h0
    have e : sR s (fun x => heG 0 x * heG 0 x) = sR s fun _ => 1 := sR_congr fun x _ => by rw [he_zero]; decide
    rw [e, sR_one, nR_int, if_pos rfl]
  · rw [he_sq (by omega), if_neg (by omega), if_neg h0]
    simp
theorem heN_pos {s a : Nat} (hs : 1 ≤ s) : 1 ≤ heN s a := by
  unfold heN
  split
  · exact hs
  · exact Nat.mul_pos (by omega) (by omega)
end Go.Proofs.Ytjfjdidibglhaab
