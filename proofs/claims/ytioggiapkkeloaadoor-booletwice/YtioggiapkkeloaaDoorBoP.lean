/- Functions of bits: their spectra, by the last bit; nothing of the program. -/
import Derived.Test.YtioggiapkkeloaaDoorHdP
namespace Go.Proofs.YtioggiapkkeloaaDoor

/-- How many of the last n bits are 1. -/
def wtk : Nat → Nat → Nat
  | 0, _ => 0
  | n + 1, x => x % 2 + wtk n (x / 2)
theorem wtk_le : ∀ (n x : Nat), wtk n x ≤ n
  | 0, _ => Nat.le_refl _
  | n + 1, x => by have := wtk_le n (x / 2); rw [wtk]; omega
theorem wtk_nil : ∀ n, wtk n 0 = 0
  | 0 => rfl
  | n + 1 => by rw [wtk]; simp [wtk_nil n]
theorem wtk_more : ∀ {n x : Nat} (k : Nat), x < 2 ^ n → wtk (n + k) x = wtk n x
  | 0, x, k, h => by
    obtain rfl : x = 0 := by simpa using h
    rw [wtk_nil, wtk_nil]
  | n + 1, x, k, h => by
    rw [Nat.add_right_comm, wtk, wtk, wtk_more k (by rw [Nat.pow_succ] at h; omega)]
theorem wtk_pos : ∀ {n x : Nat}, x < 2 ^ n → x ≠ 0 → 1 ≤ wtk n x
  | 0, x, h, h0 => by simp at h; exact (h0 h).elim
  | n + 1, x, h, h0 => by
    rw [wtk]
    rw [Nat.pow_succ] at h
    by_cases e : x / 2 = 0
    · omega
    · have := wtk_pos (n := n) (x := x / 2) (by omega) e
      omega
/-- 1, or -1 where it is odd. -/
def sg2 (k : Nat) : Int := if k % 2 = 0 then 1 else -1
theorem sg2_add (a b : Nat) : sg2 (a + b) = sg2 a * sg2 b := by
  unfold sg2
  rcases Nat.mod_two_eq_zero_or_one a with h | h <;> rcases Nat.mod_two_eq_zero_or_one b with k | k <;> simp [Nat.add_mod, h, k]
theorem sg2_sg (k : Nat) : Sg (sg2 k) := by unfold sg2 Sg; split <;> simp
theorem and_half (a x : Nat) : (a &&& x) / 2 = a / 2 &&& x / 2 := by
  apply Nat.eq_of_testBit_eq
  intro i
  rw [Nat.testBit_and, Nat.testBit_div_two, Nat.testBit_div_two, Nat.testBit_div_two, Nat.testBit_and]
theorem and_odd (a x : Nat) : (a &&& x) % 2 = (a % 2) * (x % 2) := by
  have h : (a &&& x).testBit 0 = (a.testBit 0 && x.testBit 0) := Nat.testBit_and ..
  rw [Nat.testBit_zero, Nat.testBit_zero, Nat.testBit_zero] at h
  have h2 : (a &&& x) % 2 = 1 ↔ a % 2 = 1 ∧ x % 2 = 1 := by
    rw [← decide_eq_true_iff (p := (a &&& x) % 2 = 1), h, Bool.and_eq_true, decide_eq_true_iff, decide_eq_true_iff]
  rcases Nat.mod_two_eq_zero_or_one a with e | e <;> rcases Nat.mod_two_eq_zero_or_one x with k | k <;> rw [e, k] at h2 ⊢ <;> omega
theorem sm_two (f : Nat → Int) (M : Nat) : sm (M * 2) f = sm M fun x => f (x * 2) + f (x * 2 + 1) := by
  rw [sm_split]
  exact sm_congr fun x _ => by simp [sm]
/-- A spectrum, by the last bit. -/
def Wh : Nat → (Nat → Int) → Nat → Int
  | 0, g, _ => g 0
  | n + 1, g, a => Wh n (fun x => g (x * 2)) (a / 2) + sg2 a * Wh n (fun x => g (x * 2 + 1)) (a / 2)
theorem Wh_sum : ∀ (n : Nat) (g : Nat → Int) (a : Nat), Wh n g a = sm (2 ^ n) fun x => sg2 (wtk n (a &&& x)) * g x
  | 0, g, a => by simp [Wh, sm, wtk, sg2]
  | n + 1, g, a => by
    rw [Nat.pow_succ, sm_two, Wh, Wh_sum n, Wh_sum n, ← sm_mul, ← sm_add]
    refine sm_congr fun x _ => ?_
    rw [wtk, wtk, and_half, and_half, and_odd, and_odd, show x * 2 / 2 = x by omega, show (x * 2 + 1) / 2 = x by omega, show x * 2 % 2 = 0 by omega, show (x * 2 + 1) % 2 = 1 by omega]
    rw [Nat.mul_zero, Nat.zero_add, Nat.mul_one, sg2_add, show sg2 (a % 2) = sg2 a by unfold sg2; rw [Nat.mod_mod]]
    grind
theorem Wh_congr {n : Nat} {g h : Nat → Int} (a : Nat) (e : ∀ x, x < 2 ^ n → g x = h x) : Wh n g a = Wh n h a := by
  rw [Wh_sum, Wh_sum]
  exact sm_congr fun x hx => by rw [e x hx]
theorem Wh_add (n : Nat) (g h : Nat → Int) (a : Nat) : Wh n (fun x => g x + h x) a = Wh n g a + Wh n h a := by
  rw [Wh_sum, Wh_sum, Wh_sum, ← sm_add]
  exact sm_congr fun x _ => Int.mul_add _ _ _
theorem Wh_mul (n : Nat) (c : Int) (g : Nat → Int) (a : Nat) : Wh n (fun x => c * g x) a = c * Wh n g a := by
  rw [Wh_sum, Wh_sum, ← sm_mul]
  exact sm_congr fun x _ => by grind
theorem sg2_even (a : Nat) : sg2 (a * 2) = 1 := by unfold sg2; rw [if_pos (by omega)]
theorem sg2_odd (a : Nat) : sg2 (a * 2 + 1) = -1 := by unfold sg2; rw [if_neg (by omega)]
theorem Wh_even (n : Nat) (g : Nat → Int) (a : Nat) : Wh (n + 1) g (a * 2) = Wh n (fun x => g (x * 2)) a + Wh n (fun x => g (x * 2 + 1)) a := by
  rw [Wh, sg2_even, show a * 2 / 2 = a by omega]; omega
theorem Wh_odd (n : Nat) (g : Nat → Int) (a : Nat) : Wh (n + 1) g (a * 2 + 1) = Wh n (fun x => g (x * 2)) a - Wh n (fun x => g (x * 2 + 1)) a := by
  rw [Wh, sg2_odd, show (a * 2 + 1) / 2 = a by omega]; omega
/-- It leads back. -/
theorem Wh_Wh : ∀ (n : Nat) (g : Nat → Int) (x : Nat), x < 2 ^ n → Wh n (Wh n g) x = 2 ^ n * g x
  | 0, g, x, h => by
    obtain rfl : x = 0 := by simpa using h
    simp [Wh]
  | n + 1, g, x, h => by
    rw [Wh, Wh_congr (g := fun y => Wh (n + 1) g (y * 2)) (h := fun y => Wh n (fun x => g (x * 2)) y + Wh n (fun x => g (x * 2 + 1)) y) _ (fun y _ => Wh_even n g y),
      Wh_congr (g := fun y => Wh (n + 1) g (y * 2 + 1)) (h := fun y => Wh n (fun x => g (x * 2)) y + (-1) * Wh n (fun x => g (x * 2 + 1)) y) _ (fun y _ => by rw [Wh_odd]; omega), Wh_add, Wh_add, Wh_mul]
    rw [Nat.pow_succ] at h
    have e1 := Wh_Wh n (fun x => g (x * 2)) (x / 2) (by omega)
    have e2 := Wh_Wh n (fun x => g (x * 2 + 1)) (x / 2) (by omega)
    have hp : (2 : Int) ^ (n + 1) = 2 * 2 ^ n := by rw [Int.pow_succ]; omega
    rw [e1, e2, hp]
    rcases Nat.mod_two_eq_zero_or_one x with k | k
    · have hx : x / 2 * 2 = x := by omega
      have hs : sg2 x = 1 := by unfold sg2; rw [if_pos k]
      rw [hs, hx]
      grind
    · have hx : x / 2 * 2 + 1 = x := by omega
      have hs : sg2 x = -1 := by unfold sg2; rw [if_neg (by omega)]
      rw [hs, hx]
      grind
/-- Parseval. -/
theorem parseval : ∀ (n : Nat) (g : Nat → Int), (sm (2 ^ n) fun a => Wh n g a * Wh n g a) = 2 ^ n * sm (2 ^ n) fun x => g x * g x
  | 0, g => by simp [sm, Wh]
  | n + 1, g => by
    have hp : (2 : Int) ^ (n + 1) = 2 * 2 ^ n := by rw [Int.pow_succ]; omega
    rw [Nat.pow_succ, sm_two, sm_two, hp, sm_add]
    have e : (sm (2 ^ n) fun x => Wh (n + 1) g (x * 2) * Wh (n + 1) g (x * 2) + Wh (n + 1) g (x * 2 + 1) * Wh (n + 1) g (x * 2 + 1)) = sm (2 ^ n) (fun x => 2 * (Wh n (fun x => g (x * 2)) x * Wh n (fun x => g (x * 2)) x)) + sm (2 ^ n) fun x => 2 * (Wh n (fun x => g (x * 2 + 1)) x * Wh n (fun x => g (x * 2 + 1)) x) := by
      rw [← sm_add]
      refine sm_congr fun x _ => ?_
      rw [Wh_even, Wh_odd]
      grind
    rw [← sm_add, e, sm_mul, sm_mul, parseval n, parseval n]
    rw [sm_add]
    grind
end Go.Proofs.YtioggiapkkeloaaDoor
