/- How many Lyndon words there are: the divisors' together are all lists, for any number of letters. Plain words. -/
import Derived.Test.YtcjkcgfohmhbcabWdP
namespace Go.Proofs.Ytcjkcgfohmhbcab

/-- A sum from 1 to n. -/
def sI (f : Nat → Int) : Nat → Int
  | 0 => 0
  | j + 1 => sI f j + f (j + 1)
theorem sI_congr {f g : Nat → Int} : ∀ n, (∀ j, 1 ≤ j → j ≤ n → f j = g j) → sI f n = sI g n
  | 0, _ => rfl
  | n + 1, h => by
    show sI f n + f (n + 1) = sI g n + g (n + 1)
    rw [sI_congr n fun j h1 h2 => h j h1 (by omega), h (n + 1) (by omega) (Nat.le_refl _)]
theorem sI_zero {f : Nat → Int} : ∀ n, (∀ j, 1 ≤ j → j ≤ n → f j = 0) → sI f n = 0
  | 0, _ => rfl
  | n + 1, h => by
    show sI f n + f (n + 1) = 0
    rw [sI_zero n fun j h1 h2 => h j h1 (by omega), h (n + 1) (by omega) (Nat.le_refl _)]; rfl
theorem sI_add (f g : Nat → Int) : ∀ n, sI (fun j => f j + g j) n = sI f n + sI g n
  | 0 => rfl
  | n + 1 => by
    show sI (fun j => f j + g j) n + (f (n + 1) + g (n + 1)) = sI f n + f (n + 1) + (sI g n + g (n + 1))
    rw [sI_add f g n]; omega
theorem sI_mul (c : Int) (f : Nat → Int) : ∀ n, sI (fun j => c * f j) n = c * sI f n
  | 0 => (Int.mul_zero c).symm
  | n + 1 => by
    show sI (fun j => c * f j) n + c * f (n + 1) = c * (sI f n + f (n + 1))
    rw [sI_mul c f n, Int.mul_add]
theorem sI_mulr (c : Int) (f : Nat → Int) (n : Nat) : sI (fun j => f j * c) n = sI f n * c := by
  rw [Int.mul_comm, ← sI_mul]
  exact sI_congr n fun j _ _ => Int.mul_comm _ _
theorem sI_swap (f : Nat → Nat → Int) (m : Nat) : ∀ n, sI (fun a => sI (f a) m) n = sI (fun b => sI (fun a => f a b) n) m
  | 0 => (sI_zero m fun _ _ _ => rfl).symm
  | n + 1 => by
    show sI (fun a => sI (f a) m) n + sI (f (n + 1)) m = sI (fun b => sI (fun a => f a b) n + f (n + 1) b) m
    rw [sI_add, sI_swap f m n]
theorem sI_more {f : Nat → Int} {n m : Nat} (hn : n ≤ m) (h : ∀ j, n < j → j ≤ m → f j = 0) : sI f m = sI f n := by
  obtain ⟨d, rfl⟩ : ∃ d, m = n + d := ⟨m - n, by omega⟩
  clear hn
  induction d with
  | zero => rfl
  | succ d ih =>
    show sI f (n + d) + f (n + d + 1) = _
    rw [ih fun j h1 h2 => h j h1 (by omega), h (n + d + 1) (by omega) (by omega), Int.add_zero]
/-- What stands at k ^ d. -/
def cfM (n d : Nat) : Int := if n % d = 0 then mbN (n / d) else 0
theorem psZ_sum (k n : Nat) : ∀ j, psZ k n j = sI (fun d => cfM n d * ((k ^ d : Nat) : Int)) j
  | 0 => rfl
  | j + 1 => by
    show (if n % (j + 1) = 0 then psZ k n j + mbN (n / (j + 1)) * ((k ^ (j + 1) : Nat) : Int) else psZ k n j) = sI _ j + cfM n (j + 1) * _
    rw [← psZ_sum k n j]
    unfold cfM
    split
    · rfl
    · rw [Int.zero_mul, Int.add_zero]
theorem cfM_far {n d : Nat} (h1 : 1 ≤ n) (h : n < d) : cfM n d = 0 := by
  unfold cfM
  rw [if_neg (by rw [Nat.mod_eq_of_lt h]; omega)]
def gM (n d : Nat) : Int := if n % d = 0 then 1 else 0
set_option maxRecDepth 100000 in
/-- Moebius' turning over. -/
theorem inv_all : (List.range 60).all (fun n => (List.range 60).all fun e => decide (n < e) || sI (fun d => gM (n + 1) d * cfM d (e + 1)) (n + 1) == if e = n then 1 else 0) = true := by decide +kernel
theorem inv_at {n e : Nat} (hn : 1 ≤ n) (hn6 : n ≤ 60) (he : 1 ≤ e) (hen : e ≤ n) : sI (fun d => gM n d * cfM d e) n = if e = n then 1 else 0 := by
  have a := List.all_eq_true.1 (List.all_eq_true.1 inv_all (n - 1) (List.mem_range.2 (by omega))) (e - 1) (List.mem_range.2 (by omega))
  rw [show n - 1 + 1 = n by omega, show e - 1 + 1 = e by omega, Bool.or_eq_true] at a
  rcases a with a | a
  · have := of_decide_eq_true a; omega
  · rw [eq_of_beq a]
    by_cases h : e = n
    · rw [if_pos h, if_pos (by omega)]
    · rw [if_neg h, if_neg (by omega)]
theorem sI_at {f : Nat → Int} {n : Nat} (hn : 1 ≤ n) (h : ∀ j, 1 ≤ j → j < n → f j = 0) : sI f n = f n := by
  obtain ⟨m, rfl⟩ : ∃ m, n = m + 1 := ⟨n - 1, by omega⟩
  show sI f m + f (m + 1) = _
  rw [sI_zero m fun j h1 h2 => h j h1 (by omega), Int.zero_add]
/-- The sums of the divisors are together k ^ n. -/
theorem ps_all (k : Nat) {n : Nat} (hn : 1 ≤ n) (hn6 : n ≤ 60) : sI (fun d => gM n d * psZ k d d) n = ((k ^ n : Nat) : Int) := by
  have e1 : sI (fun d => gM n d * psZ k d d) n = sI (fun d => sI (fun e => gM n d * cfM d e * ((k ^ e : Nat) : Int)) n) n := sI_congr n fun d h1 h2 => by
    rw [psZ_sum, ← sI_more h2 (f := fun e => cfM d e * ((k ^ e : Nat) : Int)) fun e h3 h4 => by
      show cfM d e * ((k ^ e : Nat) : Int) = 0
      rw [cfM_far h1 h3, Int.zero_mul]]
    rw [← sI_mul]
    exact sI_congr n fun e _ _ => (Int.mul_assoc _ _ _).symm
  rw [e1, sI_swap (fun d e => gM n d * cfM d e * ((k ^ e : Nat) : Int)) n n]
  have e2 : sI (fun e => sI (fun d => gM n d * cfM d e * ((k ^ e : Nat) : Int)) n) n = sI (fun e => (if e = n then 1 else 0) * ((k ^ e : Nat) : Int)) n := sI_congr n fun e h1 h2 => by
    rw [sI_mulr, inv_at hn hn6 h1 h2]
  rw [e2, sI_at hn fun j _ h2 => by rw [if_neg (by omega), Int.zero_mul], if_pos rfl, Int.one_mul]
theorem mod_sum {f g : Nat → Int} {m : Int} : ∀ n, (∀ j, 1 ≤ j → j ≤ n → m ∣ f j - g j) → m ∣ sI f n - sI g n
  | 0, _ => by show m ∣ (0 : Int) - 0; exact ⟨0, by omega⟩
  | n + 1, h => by
    have h1 := mod_sum n fun j a b => h j a (by omega)
    have h2 := h (n + 1) (by omega) (Nat.le_refl _)
    have e : sI f (n + 1) - sI g (n + 1) = (sI f n - sI g n) + (f (n + 1) - g (n + 1)) := by
      show sI f n + f (n + 1) - (sI g n + g (n + 1)) = _
      omega
    rw [e]
    exact Int.dvd_add h1 h2
set_option maxRecDepth 100000 in
theorem div_all : (List.range 60).all (fun n => (List.range 60).all fun r => decide (n < r) || psZ r (n + 1) (n + 1) % ((n + 1 : Nat) : Int) == 0) = true := by decide +kernel
/-- n divides it. -/
theorem ps_div (k : Nat) {n : Nat} (hn : 1 ≤ n) (hn6 : n ≤ 60) : (n : Int) ∣ psZ k n n := by
  have hr : k % n < n := Nat.mod_lt _ (by omega)
  have a := List.all_eq_true.1 (List.all_eq_true.1 div_all (n - 1) (List.mem_range.2 (by omega))) (k % n) (List.mem_range.2 (by omega))
  rw [show n - 1 + 1 = n by omega, Bool.or_eq_true] at a
  have h0 : (n : Int) ∣ psZ (k % n) n n := by
    rcases a with a | a
    · have := of_decide_eq_true a; omega
    · exact Int.dvd_of_emod_eq_zero (eq_of_beq a)
  have hd : (n : Int) ∣ psZ k n n - psZ (k % n) n n := by
    rw [psZ_sum, psZ_sum]
    refine mod_sum n fun j _ _ => ?_
    show (n : Int) ∣ cfM n j * ((k ^ j : Nat) : Int) - cfM n j * (((k % n) ^ j : Nat) : Int)
    rw [← Int.mul_sub]
    refine Int.dvd_mul_of_dvd_right ?_
    refine Int.dvd_of_emod_eq_zero ?_
    have h1 : (k ^ j) % n = ((k % n) ^ j) % n := Nat.pow_mod k j n
    have h2 : ((k ^ j : Nat) : Int) % (n : Int) = (((k % n) ^ j : Nat) : Int) % (n : Int) := by
      rw [← Int.natCast_emod, ← Int.natCast_emod, h1]
    exact Int.emod_eq_emod_iff_emod_sub_eq_zero.1 h2
  have := Int.dvd_add hd h0
  rwa [Int.sub_add_cancel] at this
theorem pr_mul (k : Nat) {n : Nat} (hn : 1 ≤ n) (hn6 : n ≤ 60) : (n : Int) * prZ k n = psZ k n n := by
  unfold prZ
  exact Int.mul_tdiv_cancel' (ps_div k hn hn6)
theorem dsZ_sum (k n : Nat) : ∀ j, dsZ k n j = sI (fun d => gM n d * ((d : Int) * prZ k d)) j
  | 0 => rfl
  | j + 1 => by
    show (if n % (j + 1) = 0 then dsZ k n j + ((j + 1 : Nat) : Int) * prZ k (j + 1) else dsZ k n j) = sI _ j + gM n (j + 1) * _
    rw [← dsZ_sum k n j]
    unfold gM
    split
    · rw [Int.one_mul]
    · rw [Int.zero_mul, Int.add_zero]
/-- The Lyndon words of all divisors, each as often as it is long, are all lists. -/
theorem ds_full (k : Nat) {n : Nat} (hn : 1 ≤ n) (hn6 : n ≤ 60) : dsZ k n n = ((k ^ n : Nat) : Int) := by
  rw [dsZ_sum, ← ps_all k hn hn6]
  refine sI_congr n fun d h1 h2 => ?_
  rw [pr_mul k h1 (by omega)]
end Go.Proofs.Ytcjkcgfohmhbcab
