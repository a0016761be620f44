/- Sums, products and numbers of rows. -/
import Derived.Test.YtcjkcgfohmhbcabDoorPureD
namespace Go.Proofs.YtcjkcgfohmhbcabDoor.Fd

/-- The number whose digits are the top n of the k lowest of a row. -/
def hor (f : Nat → Int) (p : Int) (k : Nat) : Nat → Int
  | 0 => 0
  | n + 1 => hor f p k n * p + f (k - 1 - n)
theorem hor_bd {f : Nat → Int} {p : Int} {k : Nat} (hp : 2 ≤ p) (hf : inP p f) : ∀ n, 0 ≤ hor f p k n ∧ hor f p k n < p ^ n
  | 0 => ⟨Int.le_refl _, by simp [hor]⟩
  | n + 1 => by
    obtain ⟨h1, h2⟩ := hor_bd hp hf n
    have h3 := hf (k - 1 - n)
    unfold hor
    refine ⟨Int.add_nonneg (Int.mul_nonneg h1 (by omega)) h3.1, ?_⟩
    rw [Int.pow_succ]
    have h4 : (hor f p k n + 1) * p ≤ p ^ n * p := Int.mul_le_mul_of_nonneg_right (by omega) (by omega)
    rw [Int.add_mul] at h4
    omega
theorem hor_congr {f g : Nat → Int} {p : Int} {k : Nat} (h : ∀ t, t < k → f t = g t) : ∀ n, n ≤ k → hor f p k n = hor g p k n
  | 0, _ => rfl
  | n + 1, hn => by
    unfold hor
    rw [hor_congr h n (by omega), h _ (by omega)]

/-- The sum of two rows. -/
def plusF (f g : Nat → Int) (p : Int) : Nat → Int := fun t => (f t + g t) % p
/-- The first i numbers of the sum, then the first row's. -/
def plusTo (f g : Nat → Int) (p : Int) (i : Nat) : Nat → Int := fun t => if t < i then (f t + g t) % p else f t
theorem plusTo_succ (f g : Nat → Int) (p : Int) (i t : Nat) : upd (plusTo f g p i) i ((f i + g i) % p) t = plusTo f g p (i + 1) t := by
  unfold upd plusTo
  by_cases e : t = i
  · subst e; simp
  · rw [if_neg e]
    by_cases h : t < i
    · rw [if_pos h, if_pos (by omega)]
    · rw [if_neg h, if_neg (by omega)]
theorem plusF_in (f g : Nat → Int) (p : Int) (hp : 0 < p) : inP p (plusF f g p) := fun _ => ⟨Int.emod_nonneg _ (by omega), Int.emod_lt_of_pos _ hp⟩

/-- A row to which a multiple of j numbers of another one, moved by i places, has been added. -/
def mulRow (f : Nat → Int) (x : Int) (b : Nat → Int) (p : Int) (i j : Nat) : Nat → Int := fun t => if i ≤ t ∧ t < i + j then (f t + x * b (t - i)) % p else f t
theorem mulRow_zero (f : Nat → Int) (x : Int) (b : Nat → Int) (p : Int) (i t : Nat) : mulRow f x b p i 0 t = f t := by unfold mulRow; rw [if_neg (by omega)]
theorem mulRow_at (f : Nat → Int) (x : Int) (b : Nat → Int) (p : Int) (i j : Nat) : mulRow f x b p i j (i + j) = f (i + j) := by unfold mulRow; rw [if_neg (by omega)]
theorem mulRow_succ (f : Nat → Int) (x : Int) (b : Nat → Int) (p : Int) (i j t : Nat) : upd (mulRow f x b p i j) (i + j) ((f (i + j) + x * b j) % p) t = mulRow f x b p i (j + 1) t := by
  unfold upd mulRow
  by_cases e : t = i + j
  · subst e; rw [if_pos rfl, if_pos (by omega), show i + j - i = j by omega]
  · rw [if_neg e]
    by_cases h : i ≤ t ∧ t < i + j
    · rw [if_pos h, if_pos (by omega)]
    · rw [if_neg h, if_neg (by omega)]
theorem mulRow_in {f : Nat → Int} {x : Int} {b : Nat → Int} {p : Int} {i j : Nat} (hp : 0 < p) (hf : inP p f) : inP p (mulRow f x b p i j) := by
  intro t
  unfold mulRow
  split
  · exact ⟨Int.emod_nonneg _ (by omega), Int.emod_lt_of_pos _ hp⟩
  · exact hf t
/-- The product of two rows, of i numbers of the one and j of the other. -/
def mulN (a b : Nat → Int) (p : Int) (j : Nat) : Nat → (Nat → Int)
  | 0 => fun _ => 0
  | i + 1 => mulRow (mulN a b p j i) (a i) b p i j
theorem mulN_in {a b : Nat → Int} {p : Int} {j : Nat} (hp : 0 < p) : ∀ i, inP p (mulN a b p j i)
  | 0 => fun _ => ⟨Int.le_refl _, hp⟩
  | i + 1 => mulRow_in hp (mulN_in hp i)
theorem mulRow_none {f : Nat → Int} {b : Nat → Int} {p : Int} {i j : Nat} (hf : inP p f) : mulRow f 0 b p i j = f := by
  funext t
  unfold mulRow
  split
  · rw [Int.zero_mul, Int.add_zero]; exact Int.emod_eq_of_lt (hf t).1 (hf t).2
  · rfl
theorem mulRow_short {f : Nat → Int} {x : Int} {b : Nat → Int} {p : Int} {i j k : Nat} (hf : inP p f) (hb : ∀ t, k ≤ t → b t = 0) (hk : k ≤ j) : mulRow f x b p i j = mulRow f x b p i k := by
  funext t
  unfold mulRow
  by_cases h : i ≤ t ∧ t < i + k
  · rw [if_pos h, if_pos (by omega)]
  · rw [if_neg h]
    split
    · rw [hb _ (by omega), Int.mul_zero, Int.add_zero]; exact Int.emod_eq_of_lt (hf t).1 (hf t).2
    · rfl
theorem mulN_short {a b : Nat → Int} {p : Int} {j k : Nat} (hp : 0 < p) (hb : ∀ t, k ≤ t → b t = 0) (hk : k ≤ j) : ∀ i, mulN a b p j i = mulN a b p k i
  | 0 => rfl
  | i + 1 => by
    show mulRow (mulN a b p j i) (a i) b p i j = mulRow (mulN a b p k i) (a i) b p i k
    rw [mulN_short hp hb hk i, mulRow_short (mulN_in hp i) hb hk]
theorem mulN_few {a b : Nat → Int} {p : Int} {j k : Nat} (hp : 0 < p) (ha : ∀ t, k ≤ t → a t = 0) : ∀ d, mulN a b p j (k + d) = mulN a b p j k
  | 0 => rfl
  | d + 1 => by
    show mulRow (mulN a b p j (k + d)) (a (k + d)) b p (k + d) j = _
    rw [ha _ (by omega), mulRow_none (mulN_in hp _)]
    exact mulN_few hp ha d
theorem mulN_over {a b : Nat → Int} {p : Int} {j : Nat} : ∀ i t, i + j ≤ t + 1 → mulN a b p j i t = 0
  | 0, _, _ => rfl
  | i + 1, t, h => by
    show mulRow (mulN a b p j i) (a i) b p i j t = 0
    unfold mulRow
    rw [if_neg (by omega)]
    exact mulN_over i t (by omega)
theorem digF_small {n p k : Nat} (hn : n < p ^ k) (hp : 2 ≤ p) (t : Nat) (ht : k ≤ t) : digF n p t = 0 := by
  unfold digF
  have h : p ^ k ≤ p ^ t := Nat.pow_le_pow_right (by omega) ht
  rw [Nat.div_eq_of_lt (by omega)]; simp
theorem plus_small {a b p k : Nat} (ha : a < p ^ k) (hb : b < p ^ k) (hp : 2 ≤ p) (t : Nat) (ht : k ≤ t) : plusF (digF a p) (digF b p) p t = 0 := by
  unfold plusF
  rw [digF_small ha hp t ht, digF_small hb hp t ht]; rfl

end Go.Proofs.YtcjkcgfohmhbcabDoor.Fd
