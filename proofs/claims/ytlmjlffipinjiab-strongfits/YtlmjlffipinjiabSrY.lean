/- Numbers with a root of d: a domain, where d is no square; traces of matrices of them. Nothing of the program. -/
import Derived.Test.YtlmjlffipinjiabSrG
namespace Go.Proofs.Ytlmjlffipinjiab

/-- x + y r, where r r = d. -/
structure Zq (d : Int) where
  re : Int
  im : Int
namespace Zq
variable {d : Int}
theorem ext {a b : Zq d} (h1 : a.re = b.re) (h2 : a.im = b.im) : a = b := by
  cases a; cases b; cases h1; cases h2; rfl
instance : Add (Zq d) := ⟨fun a b => ⟨a.re + b.re, a.im + b.im⟩⟩
instance : Mul (Zq d) := ⟨fun a b => ⟨a.re * b.re + d * (a.im * b.im), a.re * b.im + a.im * b.re⟩⟩
instance : Neg (Zq d) := ⟨fun a => ⟨-a.re, -a.im⟩⟩
instance : Sub (Zq d) := ⟨fun a b => ⟨a.re - b.re, a.im - b.im⟩⟩
instance (n : Nat) : OfNat (Zq d) n := ⟨⟨n, 0⟩⟩
theorem add_re (a b : Zq d) : (a + b).re = a.re + b.re := rfl
theorem add_im (a b : Zq d) : (a + b).im = a.im + b.im := rfl
theorem mul_re (a b : Zq d) : (a * b).re = a.re * b.re + d * (a.im * b.im) := rfl
theorem mul_im (a b : Zq d) : (a * b).im = a.re * b.im + a.im * b.re := rfl
theorem neg_re (a : Zq d) : (-a).re = -a.re := rfl
theorem neg_im (a : Zq d) : (-a).im = -a.im := rfl
theorem sub_re (a b : Zq d) : (a - b).re = a.re - b.re := rfl
theorem sub_im (a b : Zq d) : (a - b).im = a.im - b.im := rfl
theorem nil_re : (0 : Zq d).re = 0 := rfl
theorem nil_im : (0 : Zq d).im = 0 := rfl
theorem one_re : (1 : Zq d).re = 1 := rfl
theorem one_im : (1 : Zq d).im = 0 := rfl
theorem norm_nil {x y : Int} (h : x * x = d * (y * y)) (hd : ∀ r : Nat, (r * r : Int) ≠ d) : x = 0 ∧ y = 0 := by
  by_cases hy : y = 0
  · subst hy
    have : x * x = 0 := by simpa using h
    rcases Int.mul_eq_zero.1 this with k | k <;> exact ⟨k, rfl⟩
  · exfalso
    have h1 : y * y ∣ x * x := ⟨d, by rw [h]; grind⟩
    have h2 : y.natAbs * y.natAbs ∣ x.natAbs * x.natAbs := by
      have := Int.natAbs_dvd_natAbs.2 h1
      rwa [Int.natAbs_mul, Int.natAbs_mul] at this
    have h3 : y.natAbs ∣ x.natAbs := by
      have : y.natAbs ^ 2 ∣ x.natAbs ^ 2 := by rw [Nat.pow_two, Nat.pow_two]; exact h2
      exact (Nat.pow_dvd_pow_iff (by decide)).1 this
    obtain ⟨c, hc⟩ := h3
    have h4 : (x.natAbs : Int) * x.natAbs = x * x := Int.natAbs_mul_self
    have h5 : (y.natAbs : Int) * y.natAbs = y * y := Int.natAbs_mul_self
    have h6 : y * y ≠ 0 := fun k => by rcases Int.mul_eq_zero.1 k with k | k <;> exact hy k
    have h7 : (x.natAbs : Int) = y.natAbs * c := by rw [hc]; simp
    have h8 : (y * y) * (c * c : Int) = (y * y) * d := by
      rw [← h5]
      rw [h7] at h4
      grind
    exact hd c (Int.eq_of_mul_eq_mul_left h6 h8)
theorem dom (hd : ∀ r : Nat, (r * r : Int) ≠ d) (a b : Zq d) (h : a * b = 0) : a = 0 ∨ b = 0 := by
  have h1 : a.re * b.re + d * (a.im * b.im) = 0 := congrArg Zq.re h
  have h2 : a.re * b.im + a.im * b.re = 0 := congrArg Zq.im h
  by_cases hb : b = 0
  · exact .inr hb
  · left
    have n1 : a.re * (b.re * b.re - d * (b.im * b.im)) = 0 := by grind
    have n2 : a.im * (b.re * b.re - d * (b.im * b.im)) = 0 := by grind
    have n3 : b.re * b.re - d * (b.im * b.im) ≠ 0 := fun k => by
      obtain ⟨e1, e2⟩ := norm_nil (d := d) (x := b.re) (y := b.im) (by omega) hd
      exact hb (ext e1 e2)
    refine ext ?_ ?_
    · rcases Int.mul_eq_zero.1 n1 with k | k
      · exact k
      · exact absurd k n3
    · rcases Int.mul_eq_zero.1 n2 with k | k
      · exact k
      · exact absurd k n3
/-- A sum of n elements. -/
def sum : Nat → (Nat → Zq d) → Zq d
  | 0, _ => 0
  | n + 1, f => sum n f + f n
theorem sum_re (f : Nat → Zq d) : ∀ n, (sum n f).re = sR n fun i => (f i).re
  | 0 => rfl
  | n + 1 => by rw [sum, add_re, sum_re f n, sR]
theorem sum_im (f : Nat → Zq d) : ∀ n, (sum n f).im = sR n fun i => (f i).im
  | 0 => rfl
  | n + 1 => by rw [sum, add_im, sum_im f n, sR]
theorem sum_congr {f g : Nat → Zq d} : ∀ {n : Nat}, (∀ i, i < n → f i = g i) → sum n f = sum n g
  | 0, _ => rfl
  | n + 1, h => by rw [sum, sum, sum_congr fun i hi => h i (by omega), h n (by omega)]
theorem sum_nil : ∀ n, sum n (fun _ => (0 : Zq d)) = 0
  | 0 => rfl
  | n + 1 => by rw [sum, sum_nil n]; rfl
theorem sum_add (f g : Nat → Zq d) : ∀ n, sum n (fun i => f i + g i) = sum n f + sum n g
  | 0 => rfl
  | n + 1 => by
    rw [sum, sum, sum, sum_add f g n]
    exact ext (by simp only [add_re]; omega) (by simp only [add_im]; omega)
theorem mul_nil (c : Zq d) : c * 0 = 0 := ext (by simp only [mul_re, nil_re, nil_im]; grind) (by simp only [mul_im, nil_re, nil_im]; grind)
theorem nil_mul (c : Zq d) : 0 * c = 0 := ext (by simp only [mul_re, nil_re, nil_im]; grind) (by simp only [mul_im, nil_re, nil_im]; grind)
theorem add_nil (c : Zq d) : c + 0 = c := ext (by simp only [add_re, nil_re]; omega) (by simp only [add_im, nil_im]; omega)
theorem nil_add (c : Zq d) : 0 + c = c := ext (by simp only [add_re, nil_re]; omega) (by simp only [add_im, nil_im]; omega)
theorem mul_add (a b c : Zq d) : a * (b + c) = a * b + a * c := ext (by simp only [mul_re, add_re, add_im]; grind) (by simp only [mul_im, add_re, add_im]; grind)
theorem sum_mul (c : Zq d) (f : Nat → Zq d) : ∀ n, sum n (fun i => c * f i) = c * sum n f
  | 0 => (mul_nil c).symm
  | n + 1 => by rw [sum, sum, sum_mul c f n, mul_add]
theorem sum_four (x1 x2 x3 x4 : Zq d) (f1 f2 f3 f4 : Nat → Zq d) (n : Nat) : sum n (fun h => x1 * f1 h + x2 * f2 h + (x3 * f3 h + x4 * f4 h)) = x1 * sum n f1 + x2 * sum n f2 + (x3 * sum n f3 + x4 * sum n f4) := by
  rw [sum_add (fun h => x1 * f1 h + x2 * f2 h) (fun h => x3 * f3 h + x4 * f4 h), sum_add (fun h => x1 * f1 h), sum_add (fun h => x3 * f3 h), sum_mul, sum_mul, sum_mul, sum_mul]
theorem sum_two (x1 x2 : Zq d) (f1 f2 : Nat → Zq d) (n : Nat) : sum n (fun h => x1 * f1 h + x2 * f2 h) = x1 * sum n f1 + x2 * sum n f2 := by
  rw [sum_add (fun h => x1 * f1 h), sum_mul, sum_mul]
/-- The product of two differences. -/
theorem ring_four (p x y z u s w : Zq d) : (p * x - y * z) * (p * u - s * w) = p * p * (x * u) + (-(p * w)) * (x * s) + ((-(p * y)) * (z * u) + y * w * (z * s)) :=
  ext (by simp only [mul_re, mul_im, add_re, sub_re, sub_im, neg_re, neg_im]; grind) (by simp only [mul_re, mul_im, add_im, sub_re, sub_im, neg_re, neg_im]; grind)
theorem ring_back (p c x y z : Zq d) : p * p * (c * x) + (-(p * z)) * (c * y) + ((-(p * y)) * (c * z) + y * z * (c * p)) = p * c * (p * x - y * z) :=
  ext (by simp only [mul_re, mul_im, add_re, sub_re, sub_im, neg_re, neg_im]; grind) (by simp only [mul_re, mul_im, add_im, sub_re, sub_im, neg_re, neg_im]; grind)
theorem ring_less (p x y z : Zq d) : p * x - y * z = p * x + (-y) * z :=
  ext (by simp only [mul_re, add_re, sub_re, neg_re, neg_im]; grind) (by simp only [mul_im, add_im, sub_im, neg_re, neg_im]; grind)
theorem ring_tr (p x y z : Zq d) : p * x - y * z = p * x + (-1) * (z * y) :=
  ext (by simp only [mul_re, mul_im, add_re, sub_re, neg_re, neg_im, one_re, one_im]; grind) (by simp only [mul_re, mul_im, add_im, sub_im, neg_re, neg_im, one_re, one_im]; grind)
theorem ring_self (p x : Zq d) : p * x - x * p = 0 :=
  ext (by simp only [mul_re, sub_re, nil_re]; grind) (by simp only [mul_im, sub_im, nil_im]; grind)
theorem ring_end {p S c f : Zq d} (h : p * S + (-1) * (c * p) = f * (p * c)) : p * (S - c - f * c) = 0 := by
  have h1 := congrArg Zq.re h
  have h2 := congrArg Zq.im h
  simp only [mul_re, mul_im, add_re, add_im, neg_re, neg_im, one_re, one_im] at h1 h2
  exact ext (by simp only [mul_re, mul_im, sub_re, sub_im, nil_re]; grind) (by simp only [mul_re, mul_im, sub_re, sub_im, nil_im]; grind)
theorem ring_done {S c f : Zq d} (h : S - c - f * c = 0) : S = (f + 1) * c := by
  have h1 := congrArg Zq.re h
  have h2 := congrArg Zq.im h
  simp only [mul_re, mul_im, sub_re, sub_im, nil_re, nil_im] at h1 h2
  exact ext (by simp only [mul_re, add_re, add_im, one_re, one_im]; grind) (by simp only [mul_im, add_re, add_im, one_re, one_im]; grind)
/-- A number as an element. -/
def num : Nat → Zq d
  | 0 => 0
  | n + 1 => num n + 1
theorem num_is : ∀ n : Nat, (num n : Zq d) = ⟨n, 0⟩
  | 0 => rfl
  | n + 1 => by
    rw [num, num_is n]
    exact ext (by show (n : Int) + (1 : Nat) = ((n + 1 : Nat) : Int); omega) rfl
/-- The trace of a matrix that is, but for a factor, its own square, with rows that come to nothing. -/
theorem tr_idem (hd : ∀ r : Nat, (r * r : Int) ≠ d) (v : Nat) : ∀ (t : Nat) (P : Nat → Nat → Zq d) (c : Zq d), c ≠ 0 → t + 1 ≤ v →
    (∀ i j, i < v → j < v → sum v (fun h => P i h * P h j) = c * P i j) → (∀ i, i < v → sum v (P i) = 0) →
    (∀ i j, i < v → j < v → t + 1 ≤ j → P i j = 0) → ∃ f : Nat, f ≤ t ∧ sum v (fun i => P i i) = num f * c
  | 0, P, c, hc, ht, hP, hr, hz => by
    have key : ∀ i, i < v → ∀ n, 1 ≤ n → n ≤ v → sum n (P i) = P i 0 := by
      intro i hi n
      induction n with
      | zero => intro h; omega
      | succ n ih =>
        intro _ hn
        rw [sum]
        by_cases e : n = 0
        · subst e
          rw [sum, nil_add]
        · rw [ih (by omega) (by omega), hz i n hi (by omega) (by omega), add_nil]
    have h0 : ∀ i j, i < v → j < v → P i j = 0 := fun i j hi hj => by
      by_cases e : j = 0
      · subst e
        rw [← key i hi v (by omega) (Nat.le_refl _)]
        exact hr i hi
      · exact hz i j hi hj (by omega)
    refine ⟨0, Nat.le_refl _, ?_⟩
    rw [sum_congr (g := fun _ => 0) fun i hi => h0 i i hi hi, sum_nil, num, nil_mul]
  | t + 1, P, c, hc, ht, hP, hr, hz => by
    by_cases hcol : ∀ i, i < v → P i (t + 1) = 0
    · obtain ⟨f, hf, e⟩ := tr_idem hd v t P c hc (by omega) hP hr fun i j hi hj hj2 => by
        by_cases e : j = t + 1
        · subst e; exact hcol i hi
        · exact hz i j hi hj (by omega)
      exact ⟨f, by omega, e⟩
    · obtain ⟨i0, hk⟩ : ∃ i0, ¬ (i0 < v → P i0 (t + 1) = 0) := Classical.not_forall.1 hcol
      have hi0 : i0 < v := Classical.byContradiction fun h => hk fun k => absurd k h
      have hp : P i0 (t + 1) ≠ 0 := fun h => hk fun _ => h
      have hs : t + 1 < v := by omega
      obtain ⟨p, ep⟩ : ∃ p, P i0 (t + 1) = p := ⟨_, rfl⟩
      rw [ep] at hp
      have hpc : p * c ≠ 0 := fun h => by
        rcases dom hd _ _ h with h | h
        · exact hp h
        · exact hc h
      have hQ : ∀ a b, a < v → b < v → sum v (fun h => (p * P a h - P a (t + 1) * P i0 h) * (p * P h b - P h (t + 1) * P i0 b)) = p * c * (p * P a b - P a (t + 1) * P i0 b) := fun a b ha hb => by
        rw [sum_congr fun h _ => ring_four p (P a h) (P a (t + 1)) (P i0 h) (P h b) (P h (t + 1)) (P i0 b), sum_four, hP a b ha hb, hP a (t + 1) ha hs, hP i0 b hi0 hb, hP i0 (t + 1) hi0 hs, ep]
        exact ring_back p c _ _ _
      obtain ⟨f, hf, e⟩ := tr_idem hd v t (fun a b => p * P a b - P a (t + 1) * P i0 b) (p * c) hpc (by omega) hQ
        (fun a ha => by
          show sum v (fun b => p * P a b - P a (t + 1) * P i0 b) = 0
          rw [sum_congr fun b _ => ring_less p (P a b) (P a (t + 1)) (P i0 b), sum_two]
          have h1 : sum v (P a) = 0 := hr a ha
          have h2 : sum v (P i0) = 0 := hr i0 hi0
          rw [h1, h2, mul_nil, mul_nil, add_nil])
        (fun a b ha hb hb2 => by
          show p * P a b - P a (t + 1) * P i0 b = 0
          by_cases e : b = t + 1
          · subst e; rw [ep]; exact ring_self p _
          · rw [hz a b ha hb (by omega), hz i0 b hi0 hb (by omega), mul_nil, mul_nil]; rfl)
      have e2 : sum v (fun a => p * P a a - P a (t + 1) * P i0 a) = p * sum v (fun a => P a a) + (-1) * (c * p) := by
        rw [sum_congr fun a _ => ring_tr p (P a a) (P a (t + 1)) (P i0 a), sum_two, hP i0 (t + 1) hi0 hs, ep]
      have e3 : p * (sum v (fun a => P a a) - c - num f * c) = 0 := by
        have : sum v (fun a => p * P a a - P a (t + 1) * P i0 a) = num f * (p * c) := e
        rw [e2] at this
        exact ring_end this
      refine ⟨f + 1, by omega, ?_⟩
      rcases dom hd _ _ e3 with h | h
      · exact absurd h hp
      · rw [num]
        exact ring_done h
end Zq
end Go.Proofs.Ytlmjlffipinjiab
