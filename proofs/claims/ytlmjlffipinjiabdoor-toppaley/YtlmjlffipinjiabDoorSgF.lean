/- Graphs as lists: what is wrong; their numbers, looked for pair by pair; nothing of the program. -/
import Derived.RowKit
/- What is strong fits; the other of a strong graph; friends (Erdos, Renyi, Sos). Nothing of the program. -/
/- Numbers with a root of d: a domain, where d is no square; traces of matrices of them. Nothing of the program. -/
/- Strong graphs: how often the eigenvalues come, over any domain that has the root. Nothing of the program. -/
/- Traces of matrices of integers that are, but for a factor, their own squares. Nothing of the program. -/
namespace Go.Proofs.YtlmjlffipinjiabDoor.Sg

/-- A number as an element. -/
def nR : Nat → Int
  | 0 => 0
  | n + 1 => nR n + 1
/-- A sum of n elements. -/
def sR : Nat → (Nat → Int) → Int
  | 0, _ => 0
  | n + 1, f => sR n f + f n
theorem sR_congr {f g : Nat → Int} : ∀ {n : Nat}, (∀ i, i < n → f i = g i) → sR n f = sR n g
  | 0, _ => rfl
  | n + 1, h => by rw [sR, sR, sR_congr fun i hi => h i (by omega), h n (by omega)]
theorem sR_nil : ∀ n, sR n (fun _ => (0 : Int)) = 0
  | 0 => rfl
  | n + 1 => by rw [sR, sR_nil n]; grind
theorem sR_add (f g : Nat → Int) : ∀ n, sR n (fun i => f i + g i) = sR n f + sR n g
  | 0 => by simp only [sR]; grind
  | n + 1 => by rw [sR, sR, sR, sR_add f g n]; grind
theorem sR_mul (c : Int) (f : Nat → Int) : ∀ n, sR n (fun i => c * f i) = c * sR n f
  | 0 => by simp only [sR]; grind
  | n + 1 => by rw [sR, sR, sR_mul c f n]; grind
theorem sR_four (x1 x2 x3 x4 : Int) (f1 f2 f3 f4 : Nat → Int) (n : Nat) : sR n (fun h => x1 * f1 h + x2 * f2 h + (x3 * f3 h + x4 * f4 h)) = x1 * sR n f1 + x2 * sR n f2 + (x3 * sR n f3 + x4 * sR n f4) := by
  rw [sR_add (fun h => x1 * f1 h + x2 * f2 h) (fun h => x3 * f3 h + x4 * f4 h), sR_add (fun h => x1 * f1 h), sR_add (fun h => x3 * f3 h), sR_mul, sR_mul, sR_mul, sR_mul]
theorem sR_two (x1 x2 : Int) (f1 f2 : Nat → Int) (n : Nat) : sR n (fun h => x1 * f1 h + x2 * f2 h) = x1 * sR n f1 + x2 * sR n f2 := by
  rw [sR_add (fun h => x1 * f1 h), sR_mul, sR_mul]
/-- The trace of such a matrix, with rows that come to nothing. -/
theorem tr_idem (v : Nat) : ∀ (t : Nat) (P : Nat → Nat → Int) (c : Int), c ≠ 0 → t + 1 ≤ v →
    (∀ i j, i < v → j < v → sR v (fun h => P i h * P h j) = c * P i j) → (∀ i, i < v → sR v (P i) = 0) →
    (∀ i j, i < v → j < v → t + 1 ≤ j → P i j = 0) → ∃ f : Nat, f ≤ t ∧ sR v (fun i => P i i) = (nR f : Int) * c
  | 0, P, c, hc, ht, hP, hr, hz => by
    have key : ∀ i, i < v → ∀ n, 1 ≤ n → n ≤ v → sR n (P i) = P i 0 := by
      intro i hi n
      induction n with
      | zero => intro h; omega
      | succ n ih =>
        intro _ hn
        rw [sR]
        by_cases e : n = 0
        · subst e
          rw [sR]
          grind
        · rw [ih (by omega) (by omega), hz i n hi (by omega) (by omega)]
          grind
    have h0 : ∀ i j, i < v → j < v → P i j = 0 := fun i j hi hj => by
      by_cases e : j = 0
      · subst e
        rw [← key i hi v (by omega) (Nat.le_refl _)]
        exact hr i hi
      · exact hz i j hi hj (by omega)
    refine ⟨0, Nat.le_refl _, ?_⟩
    rw [sR_congr (g := fun _ => 0) fun i hi => h0 i i hi hi, sR_nil, nR]
    grind
  | t + 1, P, c, hc, ht, hP, hr, hz => by
    by_cases hcol : ∀ i, i < v → P i (t + 1) = 0
    · obtain ⟨f, hf, e⟩ := tr_idem v t P c hc (by omega) hP hr fun i j hi hj hj2 => by
        by_cases e : j = t + 1
        · subst e; exact hcol i hi
        · exact hz i j hi hj (by omega)
      exact ⟨f, by omega, e⟩
    · obtain ⟨i0, hk⟩ : ∃ i0, ¬ (i0 < v → P i0 (t + 1) = 0) := Classical.not_forall.1 hcol
      have hi0 : i0 < v := Classical.byContradiction fun h => hk fun k => absurd k h
      have hp : P i0 (t + 1) ≠ 0 := fun h => hk fun _ => h
      have hs : t + 1 < v := by omega
      obtain ⟨p, ep⟩ : ∃ p, P i0 (t + 1) = p := ⟨_, rfl⟩
      rw [ep] at hp
      have hpc : p * c ≠ 0 := fun h => by
        rcases Int.mul_eq_zero.1 h with h | h
        · exact hp h
        · exact hc h
      have hQ : ∀ a b, a < v → b < v → sR v (fun h => (p * P a h - P a (t + 1) * P i0 h) * (p * P h b - P h (t + 1) * P i0 b)) = p * c * (p * P a b - P a (t + 1) * P i0 b) := fun a b ha hb => by
        have e : sR v (fun h => (p * P a h - P a (t + 1) * P i0 h) * (p * P h b - P h (t + 1) * P i0 b)) = sR v (fun h => p * p * (P a h * P h b) + (- (p * P i0 b)) * (P a h * P h (t + 1)) + ((- (p * P a (t + 1))) * (P i0 h * P h b) + P a (t + 1) * P i0 b * (P i0 h * P h (t + 1)))) := sR_congr fun h _ => by grind
        rw [e, sR_four, hP a b ha hb, hP a (t + 1) ha hs, hP i0 b hi0 hb, hP i0 (t + 1) hi0 hs, ep]
        grind
      obtain ⟨f, hf, e⟩ := tr_idem v t (fun a b => p * P a b - P a (t + 1) * P i0 b) (p * c) hpc (by omega) hQ
        (fun a ha => by
          have e : sR v (fun b => p * P a b - P a (t + 1) * P i0 b) = sR v (fun b => p * P a b + (- P a (t + 1)) * P i0 b) := sR_congr fun b _ => by grind
          show sR v (fun b => p * P a b - P a (t + 1) * P i0 b) = 0
          rw [e, sR_two]
          have h1 : sR v (P a) = 0 := hr a ha
          have h2 : sR v (P i0) = 0 := hr i0 hi0
          rw [h1, h2]
          grind)
        (fun a b ha hb hb2 => by
          show p * P a b - P a (t + 1) * P i0 b = 0
          by_cases e : b = t + 1
          · subst e; rw [ep]; grind
          · rw [hz a b ha hb (by omega), hz i0 b hi0 hb (by omega)]; grind)
      have e2 : sR v (fun a => p * P a a - P a (t + 1) * P i0 a) = p * sR v (fun a => P a a) + (-1) * (c * p) := by
        have e : sR v (fun a => p * P a a - P a (t + 1) * P i0 a) = sR v (fun a => p * P a a + (-1) * (P i0 a * P a (t + 1))) := sR_congr fun b _ => by grind
        rw [e, sR_two, hP i0 (t + 1) hi0 hs, ep]
      have e3 : p * (sR v (fun a => P a a) - c - (nR f : Int) * c) = 0 := by
        have : sR v (fun a => p * P a a - P a (t + 1) * P i0 a) = (nR f : Int) * (p * c) := e
        rw [e2] at this
        grind
      refine ⟨f + 1, by omega, ?_⟩
      rcases Int.mul_eq_zero.1 e3 with h | h
      · exact absurd h hp
      · rw [nR]
        grind
end Go.Proofs.YtlmjlffipinjiabDoor.Sg

namespace Go.Proofs.YtlmjlffipinjiabDoor.Sg

def idR (a b : Nat) : Int := if a = b then 1 else 0
theorem sR_id (F : Nat → Int) (a : Nat) : ∀ n, sR n (fun h => idR a h * F h) = if a < n then F a else 0
  | 0 => by simp [sR]
  | n + 1 => by
    rw [sR, sR_id F a n]
    unfold idR
    by_cases h : a = n
    · subst h
      rw [if_neg (by omega), if_pos rfl, if_pos (by omega)]
      grind
    · rw [if_neg h]
      by_cases h2 : a < n
      · rw [if_pos h2, if_pos (by omega)]; grind
      · rw [if_neg h2, if_neg (by omega)]; grind
theorem sR_idr (F : Nat → Int) (b : Nat) (n : Nat) (hb : b < n) : sR n (fun h => F h * idR h b) = F b := by
  have e : sR n (fun h => F h * idR h b) = sR n (fun h => idR b h * F h) := sR_congr fun h _ => by
    have : (idR h b : Int) = idR b h := by
      unfold idR
      by_cases k : h = b
      · rw [if_pos k, if_pos k.symm]
      · rw [if_neg k, if_neg fun e => k e.symm]
    rw [this]
    grind
  rw [e, sR_id, if_pos hb]
theorem sR_one : ∀ n, sR n (fun _ => (1 : Int)) = nR n
  | 0 => rfl
  | n + 1 => by rw [sR, sR_one n, nR]
theorem sR_three (x1 x2 x3 : Int) (f1 f2 f3 : Nat → Int) (n : Nat) : sR n (fun h => x1 * f1 h + x2 * f2 h + x3 * f3 h) = x1 * sR n f1 + x2 * sR n f2 + x3 * sR n f3 := by
  rw [sR_add (fun h => x1 * f1 h + x2 * f2 h), sR_two, sR_mul]
/-- What is said of a strong graph, as a matrix over Int. -/
structure SrR (n : Nat) (k l m : Int) (A : Nat → Nat → Int) : Prop where
  row : ∀ a, a < n → sR n (A a) = k
  col : ∀ b, b < n → sR n (fun h => A h b) = k
  diag : ∀ a, a < n → A a a = 0
  sq : ∀ a b, a < n → b < n → sR n (fun h => A a h * A h b) = k * idR a b + l * A a b + m * (1 - idR a b - A a b)
/-- Three kinds of matrices times three. -/
theorem SrR.mul {n : Nat} {k l m : Int} {A : Nat → Nat → Int} (S : SrR n k l m A) (x y z : Int) {a b : Nat} (ha : a < n) (hb : b < n) :
    sR n (fun h => (x * A a h + y * idR a h + z) * (x * A h b + y * idR h b + z)) = x * x * (k * idR a b + l * A a b + m * (1 - idR a b - A a b)) + 2 * x * y * A a b + 2 * x * z * k + y * y * idR a b + 2 * y * z + z * z * nR n := by
  have e : sR n (fun h => (x * A a h + y * idR a h + z) * (x * A h b + y * idR h b + z)) = sR n (fun h => x * (x * (A a h * A h b) + y * (A a h * idR h b) + z * A a h) + y * (idR a h * (x * A h b + y * idR h b + z)) + z * (x * A h b + y * (1 * idR h b) + z * 1)) := sR_congr fun h _ => by grind
  rw [e, sR_three, sR_three, sR_three, S.sq a b ha hb, sR_idr _ b n hb, sR_id _ a n, if_pos ha, S.col b hb, sR_idr _ b n hb, sR_one]
  rw [show sR n (fun h => A a h) = k from S.row a ha]
  grind
/-- How often: -/
theorem SrR.trace {n : Nat} {k l m d : Int} {A : Nat → Nat → Int} (S : SrR n k l m A) (hn : 1 ≤ n)
    (hc : k * (k - l - 1) = (nR n - k - 1) * m) (hd : d * d = (l - m) * (l - m) + 4 * (k - m)) (h0 : 2 * d * nR n ≠ 0) :
    ∃ f : Nat, f + 1 ≤ n ∧ (nR n - 1 - 2 * nR f) * d = 2 * k + (nR n - 1) * (l - m) := by
  obtain ⟨v, hv⟩ : ∃ v : Int, nR n = v := ⟨_, rfl⟩
  rw [hv] at hc h0 ⊢
  obtain ⟨f, hf, e⟩ := tr_idem n (n - 1) (fun a b => 2 * v * A a b + (d * v - (l - m) * v) * idR a b + (-(2 * k - l + m) - d)) (2 * d * v) h0 (by omega)
    (fun a b ha hb => by
      show sR n (fun h => (2 * v * A a h + (d * v - (l - m) * v) * idR a h + (-(2 * k - l + m) - d)) * (2 * v * A h b + (d * v - (l - m) * v) * idR h b + (-(2 * k - l + m) - d))) = 2 * d * v * (2 * v * A a b + (d * v - (l - m) * v) * idR a b + (-(2 * k - l + m) - d))
      rw [S.mul _ _ _ ha hb, hv]
      generalize A a b = x
      generalize (idR a b : Int) = y
      grind)
    (fun a ha => by
      show sR n (fun b => 2 * v * A a b + (d * v - (l - m) * v) * idR a b + (-(2 * k - l + m) - d)) = 0
      have e : sR n (fun b => 2 * v * A a b + (d * v - (l - m) * v) * idR a b + (-(2 * k - l + m) - d)) = sR n (fun b => 2 * v * A a b + (d * v - (l - m) * v) * (idR a b * 1) + (-(2 * k - l + m) - d) * 1) := sR_congr fun h _ => by grind
      rw [e, sR_three, show sR n (fun h => A a h) = k from S.row a ha, sR_id (fun _ => 1) a n, if_pos ha, sR_one, hv]
      grind)
    (fun a b ha hb h => by omega)
  have e2 : sR n (fun i => 2 * v * A i i + (d * v - (l - m) * v) * idR i i + (-(2 * k - l + m) - d)) = ((d * v - (l - m) * v) + (-(2 * k - l + m) - d)) * v := by
    have e : sR n (fun i => 2 * v * A i i + (d * v - (l - m) * v) * idR i i + (-(2 * k - l + m) - d)) = sR n (fun _ => ((d * v - (l - m) * v) + (-(2 * k - l + m) - d)) * 1) := sR_congr fun h hh => by
      rw [S.diag h hh]
      have : (idR h h : Int) = 1 := if_pos rfl
      rw [this]
      grind
    rw [e, sR_mul, sR_one, hv]
  have e3 : v * ((v - 1 - 2 * nR f) * d - (2 * k + (v - 1) * (l - m))) = 0 := by
    have := e2.symm.trans e
    grind
  refine ⟨f, by omega, ?_⟩
  rcases Int.mul_eq_zero.1 e3 with h | h
  · exact absurd (by rw [h]; grind) h0
  · grind
end Go.Proofs.YtlmjlffipinjiabDoor.Sg

namespace Go.Proofs.YtlmjlffipinjiabDoor.Sg

/-- x + y r, where r r = d. -/
structure Zq (d : Int) where
  re : Int
  im : Int
namespace Zq
variable {d : Int}
theorem ext {a b : Zq d} (h1 : a.re = b.re) (h2 : a.im = b.im) : a = b := by
  cases a; cases b; cases h1; cases h2; rfl
instance : Add (Zq d) := ⟨fun a b => ⟨a.re + b.re, a.im + b.im⟩⟩
instance : Mul (Zq d) := ⟨fun a b => ⟨a.re * b.re + d * (a.im * b.im), a.re * b.im + a.im * b.re⟩⟩
instance : Neg (Zq d) := ⟨fun a => ⟨-a.re, -a.im⟩⟩
instance : Sub (Zq d) := ⟨fun a b => ⟨a.re - b.re, a.im - b.im⟩⟩
instance (n : Nat) : OfNat (Zq d) n := ⟨⟨n, 0⟩⟩
theorem add_re (a b : Zq d) : (a + b).re = a.re + b.re := rfl
theorem add_im (a b : Zq d) : (a + b).im = a.im + b.im := rfl
theorem mul_re (a b : Zq d) : (a * b).re = a.re * b.re + d * (a.im * b.im) := rfl
theorem mul_im (a b : Zq d) : (a * b).im = a.re * b.im + a.im * b.re := rfl
theorem neg_re (a : Zq d) : (-a).re = -a.re := rfl
theorem neg_im (a : Zq d) : (-a).im = -a.im := rfl
theorem sub_re (a b : Zq d) : (a - b).re = a.re - b.re := rfl
theorem sub_im (a b : Zq d) : (a - b).im = a.im - b.im := rfl
theorem nil_re : (0 : Zq d).re = 0 := rfl
theorem nil_im : (0 : Zq d).im = 0 := rfl
theorem one_re : (1 : Zq d).re = 1 := rfl
theorem one_im : (1 : Zq d).im = 0 := rfl
theorem norm_nil {x y : Int} (h : x * x = d * (y * y)) (hd : ∀ r : Nat, (r * r : Int) ≠ d) : x = 0 ∧ y = 0 := by
  by_cases hy : y = 0
  · subst hy
    have : x * x = 0 := by simpa using h
    rcases Int.mul_eq_zero.1 this with k | k <;> exact ⟨k, rfl⟩
  · exfalso
    have h1 : y * y ∣ x * x := ⟨d, by rw [h]; grind⟩
    have h2 : y.natAbs * y.natAbs ∣ x.natAbs * x.natAbs := by
      have := Int.natAbs_dvd_natAbs.2 h1
      rwa [Int.natAbs_mul, Int.natAbs_mul] at this
    have h3 : y.natAbs ∣ x.natAbs := by
      have : y.natAbs ^ 2 ∣ x.natAbs ^ 2 := by rw [Nat.pow_two, Nat.pow_two]; exact h2
      exact (Nat.pow_dvd_pow_iff (by decide)).1 this
    obtain ⟨c, hc⟩ := h3
    have h4 : (x.natAbs : Int) * x.natAbs = x * x := Int.natAbs_mul_self
    have h5 : (y.natAbs : Int) * y.natAbs = y * y := Int.natAbs_mul_self
    have h6 : y * y ≠ 0 := fun k => by rcases Int.mul_eq_zero.1 k with k | k <;> exact hy k
    have h7 : (x.natAbs : Int) = y.natAbs * c := by rw [hc]; simp
    have h8 : (y * y) * (c * c : Int) = (y * y) * d := by
      rw [← h5]
      rw [h7] at h4
      grind
    exact hd c (Int.eq_of_mul_eq_mul_left h6 h8)
theorem dom (hd : ∀ r : Nat, (r * r : Int) ≠ d) (a b : Zq d) (h : a * b = 0) : a = 0 ∨ b = 0 := by
  have h1 : a.re * b.re + d * (a.im * b.im) = 0 := congrArg Zq.re h
  have h2 : a.re * b.im + a.im * b.re = 0 := congrArg Zq.im h
  by_cases hb : b = 0
  · exact .inr hb
  · left
    have n1 : a.re * (b.re * b.re - d * (b.im * b.im)) = 0 := by grind
    have n2 : a.im * (b.re * b.re - d * (b.im * b.im)) = 0 := by grind
    have n3 : b.re * b.re - d * (b.im * b.im) ≠ 0 := fun k => by
      obtain ⟨e1, e2⟩ := norm_nil (d := d) (x := b.re) (y := b.im) (by omega) hd
      exact hb (ext e1 e2)
    refine ext ?_ ?_
    · rcases Int.mul_eq_zero.1 n1 with k | k
      · exact k
      · exact absurd k n3
    · rcases Int.mul_eq_zero.1 n2 with k | k
      · exact k
      · exact absurd k n3
/-- A sum of n elements. -/
def sum : Nat → (Nat → Zq d) → Zq d
  | 0, _ => 0
  | n + 1, f => sum n f + f n
theorem sum_re (f : Nat → Zq d) : ∀ n, (sum n f).re = sR n fun i => (f i).re
  | 0 => rfl
  | n + 1 => by rw [sum, add_re, sum_re f n, sR]
theorem sum_im (f : Nat → Zq d) : ∀ n, (sum n f).im = sR n fun i => (f i).im
  | 0 => rfl
  | n + 1 => by rw [sum, add_im, sum_im f n, sR]
theorem sum_congr {f g : Nat → Zq d} : ∀ {n : Nat}, (∀ i, i < n → f i = g i) → sum n f = sum n g
  | 0, _ => rfl
  | n + 1, h => by rw [sum, sum, sum_congr fun i hi => h i (by omega), h n (by omega)]
theorem sum_nil : ∀ n, sum n (fun _ => (0 : Zq d)) = 0
  | 0 => rfl
  | n + 1 => by rw [sum, sum_nil n]; rfl
theorem sum_add (f g : Nat → Zq d) : ∀ n, sum n (fun i => f i + g i) = sum n f + sum n g
  | 0 => rfl
  | n + 1 => by
    rw [sum, sum, sum, sum_add f g n]
    exact ext (by simp only [add_re]; omega) (by simp only [add_im]; omega)
theorem mul_nil (c : Zq d) : c * 0 = 0 := ext (by simp only [mul_re, nil_re, nil_im]; grind) (by simp only [mul_im, nil_re, nil_im]; grind)
theorem nil_mul (c : Zq d) : 0 * c = 0 := ext (by simp only [mul_re, nil_re, nil_im]; grind) (by simp only [mul_im, nil_re, nil_im]; grind)
theorem add_nil (c : Zq d) : c + 0 = c := ext (by simp only [add_re, nil_re]; omega) (by simp only [add_im, nil_im]; omega)
theorem nil_add (c : Zq d) : 0 + c = c := ext (by simp only [add_re, nil_re]; omega) (by simp only [add_im, nil_im]; omega)
theorem mul_add (a b c : Zq d) : a * (b + c) = a * b + a * c := ext (by simp only [mul_re, add_re, add_im]; grind) (by simp only [mul_im, add_re, add_im]; grind)
theorem sum_mul (c : Zq d) (f : Nat → Zq d) : ∀ n, sum n (fun i => c * f i) = c * sum n f
  | 0 => (mul_nil c).symm
  | n + 1 => by rw [sum, sum, sum_mul c f n, mul_add]
theorem sum_four (x1 x2 x3 x4 : Zq d) (f1 f2 f3 f4 : Nat → Zq d) (n : Nat) : sum n (fun h => x1 * f1 h + x2 * f2 h + (x3 * f3 h + x4 * f4 h)) = x1 * sum n f1 + x2 * sum n f2 + (x3 * sum n f3 + x4 * sum n f4) := by
  rw [sum_add (fun h => x1 * f1 h + x2 * f2 h) (fun h => x3 * f3 h + x4 * f4 h), sum_add (fun h => x1 * f1 h), sum_add (fun h => x3 * f3 h), sum_mul, sum_mul, sum_mul, sum_mul]
theorem sum_two (x1 x2 : Zq d) (f1 f2 : Nat → Zq d) (n : Nat) : sum n (fun h => x1 * f1 h + x2 * f2 h) = x1 * sum n f1 + x2 * sum n f2 := by
  rw [sum_add (fun h => x1 * f1 h), sum_mul, sum_mul]
/-- The product of two differences. -/
theorem ring_four (p x y z u s w : Zq d) : (p * x - y * z) * (p * u - s * w) = p * p * (x * u) + (-(p * w)) * (x * s) + ((-(p * y)) * (z * u) + y * w * (z * s)) :=
  ext (by simp only [mul_re, mul_im, add_re, sub_re, sub_im, neg_re, neg_im]; grind) (by simp only [mul_re, mul_im, add_im, sub_re, sub_im, neg_re, neg_im]; grind)
theorem ring_back (p c x y z : Zq d) : p * p * (c * x) + (-(p * z)) * (c * y) + ((-(p * y)) * (c * z) + y * z * (c * p)) = p * c * (p * x - y * z) :=
  ext (by simp only [mul_re, mul_im, add_re, sub_re, sub_im, neg_re, neg_im]; grind) (by simp only [mul_re, mul_im, add_im, sub_re, sub_im, neg_re, neg_im]; grind)
theorem ring_less (p x y z : Zq d) : p * x - y * z = p * x + (-y) * z :=
  ext (by simp only [mul_re, add_re, sub_re, neg_re, neg_im]; grind) (by simp only [mul_im, add_im, sub_im, neg_re, neg_im]; grind)
theorem ring_tr (p x y z : Zq d) : p * x - y * z = p * x + (-1) * (z * y) :=
  ext (by simp only [mul_re, mul_im, add_re, sub_re, neg_re, neg_im, one_re, one_im]; grind) (by simp only [mul_re, mul_im, add_im, sub_im, neg_re, neg_im, one_re, one_im]; grind)
theorem ring_self (p x : Zq d) : p * x - x * p = 0 :=
  ext (by simp only [mul_re, sub_re, nil_re]; grind) (by simp only [mul_im, sub_im, nil_im]; grind)
theorem ring_end {p S c f : Zq d} (h : p * S + (-1) * (c * p) = f * (p * c)) : p * (S - c - f * c) = 0 := by
  have h1 := congrArg Zq.re h
  have h2 := congrArg Zq.im h
  simp only [mul_re, mul_im, add_re, add_im, neg_re, neg_im, one_re, one_im] at h1 h2
  exact ext (by simp only [mul_re, mul_im, sub_re, sub_im, nil_re]; grind) (by simp only [mul_re, mul_im, sub_re, sub_im, nil_im]; grind)
theorem ring_done {S c f : Zq d} (h : S - c - f * c = 0) : S = (f + 1) * c := by
  have h1 := congrArg Zq.re h
  have h2 := congrArg Zq.im h
  simp only [mul_re, mul_im, sub_re, sub_im, nil_re, nil_im] at h1 h2
  exact ext (by simp only [mul_re, add_re, add_im, one_re, one_im]; grind) (by simp only [mul_im, add_re, add_im, one_re, one_im]; grind)
/-- A number as an element. -/
def num : Nat → Zq d
  | 0 => 0
  | n + 1 => num n + 1
theorem num_is : ∀ n : Nat, (num n : Zq d) = ⟨n, 0⟩
  | 0 => rfl
  | n + 1 => by
    rw [num, num_is n]
    exact ext (by show (n : Int) + (1 : Nat) = ((n + 1 : Nat) : Int); omega) rfl
/-- The trace of a matrix that is, but for a factor, its own square, with rows that come to nothing. -/
theorem tr_idem (hd : ∀ r : Nat, (r * r : Int) ≠ d) (v : Nat) : ∀ (t : Nat) (P : Nat → Nat → Zq d) (c : Zq d), c ≠ 0 → t + 1 ≤ v →
    (∀ i j, i < v → j < v → sum v (fun h => P i h * P h j) = c * P i j) → (∀ i, i < v → sum v (P i) = 0) →
    (∀ i j, i < v → j < v → t + 1 ≤ j → P i j = 0) → ∃ f : Nat, f ≤ t ∧ sum v (fun i => P i i) = num f * c
  | 0, P, c, hc, ht, hP, hr, hz => by
    have key : ∀ i, i < v → ∀ n, 1 ≤ n → n ≤ v → sum n (P i) = P i 0 := by
      intro i hi n
      induction n with
      | zero => intro h; omega
      | succ n ih =>
        intro _ hn
        rw [sum]
        by_cases e : n = 0
        · subst e
          rw [sum, nil_add]
        · rw [ih (by omega) (by omega), hz i n hi (by omega) (by omega), add_nil]
    have h0 : ∀ i j, i < v → j < v → P i j = 0 := fun i j hi hj => by
      by_cases e : j = 0
      · subst e
        rw [← key i hi v (by omega) (Nat.le_refl _)]
        exact hr i hi
      · exact hz i j hi hj (by omega)
    refine ⟨0, Nat.le_refl _, ?_⟩
    rw [sum_congr (g := fun _ => 0) fun i hi => h0 i i hi hi, sum_nil, num, nil_mul]
  | t + 1, P, c, hc, ht, hP, hr, hz => by
    by_cases hcol : ∀ i, i < v → P i (t + 1) = 0
    · obtain ⟨f, hf, e⟩ := tr_idem hd v t P c hc (by omega) hP hr fun i j hi hj hj2 => by
        by_cases e : j = t + 1
        · subst e; exact hcol i hi
        · exact hz i j hi hj (by omega)
      exact ⟨f, by omega, e⟩
    · obtain ⟨i0, hk⟩ : ∃ i0, ¬ (i0 < v → P i0 (t + 1) = 0) := Classical.not_forall.1 hcol
      have hi0 : i0 < v := Classical.byContradiction fun h => hk fun k => absurd k h
      have hp : P i0 (t + 1) ≠ 0 := fun h => hk fun _ => h
      have hs : t + 1 < v := by omega
      obtain ⟨p, ep⟩ : ∃ p, P i0 (t + 1) = p := ⟨_, rfl⟩
      rw [ep] at hp
      have hpc : p * c ≠ 0 := fun h => by
        rcases dom hd _ _ h with h | h
        · exact hp h
        · exact hc h
      have hQ : ∀ a b, a < v → b < v → sum v (fun h => (p * P a h - P a (t + 1) * P i0 h) * (p * P h b - P h (t + 1) * P i0 b)) = p * c * (p * P a b - P a (t + 1) * P i0 b) := fun a b ha hb => by
        rw [sum_congr fun h _ => ring_four p (P a h) (P a (t + 1)) (P i0 h) (P h b) (P h (t + 1)) (P i0 b), sum_four, hP a b ha hb, hP a (t + 1) ha hs, hP i0 b hi0 hb, hP i0 (t + 1) hi0 hs, ep]
        exact ring_back p c _ _ _
      obtain ⟨f, hf, e⟩ := tr_idem hd v t (fun a b => p * P a b - P a (t + 1) * P i0 b) (p * c) hpc (by omega) hQ
        (fun a ha => by
          show sum v (fun b => p * P a b - P a (t + 1) * P i0 b) = 0
          rw [sum_congr fun b _ => ring_less p (P a b) (P a (t + 1)) (P i0 b), sum_two]
          have h1 : sum v (P a) = 0 := hr a ha
          have h2 : sum v (P i0) = 0 := hr i0 hi0
          rw [h1, h2, mul_nil, mul_nil, add_nil])
        (fun a b ha hb hb2 => by
          show p * P a b - P a (t + 1) * P i0 b = 0
          by_cases e : b = t + 1
          · subst e; rw [ep]; exact ring_self p _
          · rw [hz a b ha hb (by omega), hz i0 b hi0 hb (by omega), mul_nil, mul_nil]; rfl)
      have e2 : sum v (fun a => p * P a a - P a (t + 1) * P i0 a) = p * sum v (fun a => P a a) + (-1) * (c * p) := by
        rw [sum_congr fun a _ => ring_tr p (P a a) (P a (t + 1)) (P i0 a), sum_two, hP i0 (t + 1) hi0 hs, ep]
      have e3 : p * (sum v (fun a => P a a) - c - num f * c) = 0 := by
        have : sum v (fun a => p * P a a - P a (t + 1) * P i0 a) = num f * (p * c) := e
        rw [e2] at this
        exact ring_end this
      refine ⟨f + 1, by omega, ?_⟩
      rcases dom hd _ _ e3 with h | h
      · exact absurd h hp
      · rw [num]
        exact ring_done h
end Zq
end Go.Proofs.YtlmjlffipinjiabDoor.Sg

/- Graphs as matrices of 0 and 1: strong ones, what counting says, the other, friends (Erdos, Renyi, Sos). Nothing of the program. -/
/- What eigenvalues say of strong graphs. Nothing of the program. -/
namespace Go.Proofs.YtlmjlffipinjiabDoor.Sg

theorem nR_int : ∀ n : Nat, (nR n : Int) = n
  | 0 => rfl
  | n + 1 => by rw [nR, nR_int n]; simp
/-- Three kinds of matrices times three. -/
theorem SrR.mul2 {n : Nat} {k l m : Int} {A : Nat → Nat → Int} (S : SrR n k l m A) (x y z x' y' z' : Int) {a b : Nat} (ha : a < n) (hb : b < n) :
    sR n (fun h => (x * A a h + y * idR a h + z) * (x' * A h b + y' * idR h b + z')) = x * x' * (k * idR a b + l * A a b + m * (1 - idR a b - A a b)) + x * y' * A a b + x * z' * k + y * x' * A a b + y * y' * idR a b + y * z' + z * x' * k + z * y' + z * z' * n := by
  have e : sR n (fun h => (x * A a h + y * idR a h + z) * (x' * A h b + y' * idR h b + z')) = sR n (fun h => x * (x' * (A a h * A h b) + y' * (A a h * idR h b) + z' * A a h) + y * (idR a h * (x' * A h b + y' * idR h b + z')) + z * (x' * A h b + y' * (1 * idR h b) + z' * 1)) := sR_congr fun h _ => by grind
  rw [e, sR_three, sR_three, sR_three, S.sq a b ha hb, sR_idr _ b n hb, sR_id _ a n, if_pos ha, S.col b hb, sR_idr _ b n hb, sR_one]
  rw [show sR n (fun h => A a h) = k from S.row a ha, nR_int]
  grind
/-- Where d has no root. -/
theorem SrR.nosq {n : Nat} {k l m d : Int} {A : Nat → Nat → Int} (S : SrR n k l m A) (hn : 1 ≤ n) (hc : k * (k - l - 1) = (n - k - 1) * m) (hd : d = (l - m) * (l - m) + 4 * (k - m)) (hs : ∀ r : Nat, (r * r : Int) ≠ d) :
    2 * k + (n - 1) * (l - m) = 0 ∧ n % 2 = 1 := by
  obtain ⟨v, hv⟩ : ∃ v : Int, (n : Int) = v := ⟨_, rfl⟩
  rw [hv] at hc ⊢
  obtain ⟨X, hX⟩ : ∃ X : Nat → Nat → Int, X = fun a b => 2 * v * A a b + (-(l - m) * v) * idR a b + (-(2 * k - l + m)) := ⟨_, rfl⟩
  obtain ⟨Y, hY⟩ : ∃ Y : Nat → Nat → Int, Y = fun a b => 0 * A a b + v * idR a b + (-1) := ⟨_, rfl⟩
  have hc0 : (⟨0, 2 * v⟩ : Zq d) ≠ 0 := fun h => by
    have : 2 * v = 0 := congrArg Zq.im h
    omega
  obtain ⟨f, hf, e⟩ := Zq.tr_idem hs n (n - 1) (fun a b => (⟨X a b, Y a b⟩ : Zq d)) ⟨0, 2 * v⟩ hc0 (by omega)
    (fun a b ha hb => by
      refine Zq.ext ?_ ?_
      · rw [Zq.sum_re]
        show sR n (fun h => X a h * X h b + d * (Y a h * Y h b)) = 0 * X a b + d * (2 * v * Y a b)
        rw [sR_add (fun h => X a h * X h b) (fun h => d * (Y a h * Y h b)), sR_mul]
        subst hX hY
        rw [S.mul2 _ _ _ _ _ _ ha hb, S.mul2 _ _ _ _ _ _ ha hb, hv]
        dsimp only
        generalize A a b = x
        generalize (idR a b : Int) = y
        subst hd
        clear hs hc0
        grind
      · rw [Zq.sum_im]
        show sR n (fun h => X a h * Y h b + Y a h * X h b) = 0 * Y a b + 2 * v * X a b
        rw [sR_add (fun h => X a h * Y h b) (fun h => Y a h * X h b)]
        subst hX hY
        rw [S.mul2 _ _ _ _ _ _ ha hb, S.mul2 _ _ _ _ _ _ ha hb, hv]
        dsimp only
        generalize A a b = x
        generalize (idR a b : Int) = y
        clear hs hc0 hd
        grind)
    (fun a ha => by
      refine Zq.ext ?_ ?_
      · rw [Zq.sum_re]
        show sR n (fun b => X a b) = 0
        subst hX
        have e : sR n (fun b => 2 * v * A a b + (-(l - m) * v) * idR a b + (-(2 * k - l + m))) = sR n (fun b => 2 * v * A a b + (-(l - m) * v) * (idR a b * 1) + (-(2 * k - l + m)) * 1) := sR_congr fun h _ => by grind
        show sR n (fun b => 2 * v * A a b + (-(l - m) * v) * idR a b + (-(2 * k - l + m))) = 0
        rw [e, sR_three, show sR n (fun h => A a h) = k from S.row a ha, sR_id (fun _ => 1) a n, if_pos ha, sR_one, nR_int, hv]
        clear hs hc0 hd hc
        grind
      · rw [Zq.sum_im]
        show sR n (fun b => Y a b) = 0
        subst hY
        have e : sR n (fun b => 0 * A a b + v * idR a b + (-1)) = sR n (fun b => 0 * A a b + v * (idR a b * 1) + (-1) * 1) := sR_congr fun h _ => by grind
        show sR n (fun b => 0 * A a b + v * idR a b + (-1)) = 0
        rw [e, sR_three, show sR n (fun h => A a h) = k from S.row a ha, sR_id (fun _ => 1) a n, if_pos ha, sR_one, nR_int, hv]
        clear hs hc0 hd hc
        grind)
    (fun a b ha hb h => by omega)
  have e1 := congrArg Zq.re e
  have e2 := congrArg Zq.im e
  rw [Zq.num_is] at e1 e2
  rw [Zq.sum_re] at e1
  rw [Zq.sum_im] at e2
  have f1 : sR n (fun a => X a a) = 0 := by
    refine e1.trans ?_
    show (f : Int) * 0 + d * (0 * (2 * v)) = 0
    grind
  have f2 : sR n (fun a => Y a a) = 2 * f * v := by
    refine e2.trans ?_
    show (f : Int) * (2 * v) + 0 * 0 = 2 * f * v
    grind
  have g1 : sR n (fun a => X a a) = v * (-(l - m) * v - (2 * k - l + m)) := by
    subst hX
    have e : sR n (fun a => 2 * v * A a a + (-(l - m) * v) * idR a a + (-(2 * k - l + m))) = sR n (fun _ => (-(l - m) * v - (2 * k - l + m)) * 1) := sR_congr fun h hh => by
      rw [S.diag h hh]
      have : (idR h h : Int) = 1 := if_pos rfl
      rw [this]
      grind
    show sR n (fun a => 2 * v * A a a + (-(l - m) * v) * idR a a + (-(2 * k - l + m))) = _
    rw [e, sR_mul, sR_one, nR_int, hv]
    grind
  have g2 : sR n (fun a => Y a a) = v * (v - 1) := by
    subst hY
    have e : sR n (fun a => 0 * A a a + v * idR a a + (-1)) = sR n (fun _ => (v - 1) * 1) := sR_congr fun h hh => by
      have : (idR h h : Int) = 1 := if_pos rfl
      rw [this]
      grind
    show sR n (fun a => 0 * A a a + v * idR a a + (-1)) = _
    rw [e, sR_mul, sR_one, nR_int, hv]
    grind
  have hv0 : v ≠ 0 := by omega
  have h1 : v * (-(l - m) * v - (2 * k - l + m)) = 0 := g1.symm.trans f1
  have h2 : v * (v - 1 - 2 * f) = 0 := by
    have := g2.symm.trans f2
    grind
  rcases Int.mul_eq_zero.1 h1 with k1 | k1
  · exact absurd k1 hv0
  · rcases Int.mul_eq_zero.1 h2 with k2 | k2
    · exact absurd k2 hv0
    · refine ⟨?_, by omega⟩
      clear e e1 e2 f1 f2 g1 g2 h1 h2 hs hc hd hX hY hc0
      grind
/-- What eigenvalues say of a strong graph. -/
theorem SrR.fits {n : Nat} {k l m d : Int} {A : Nat → Nat → Int} (S : SrR n k l m A) (hn : 1 ≤ n) (hc : k * (k - l - 1) = (n - k - 1) * m) (hd : d = (l - m) * (l - m) + 4 * (k - m)) (h0 : d ≠ 0) :
    (2 * k + (n - 1) * (l - m) = 0 ∧ n % 2 = 1) ∨ ∃ r f : Nat, 1 ≤ r ∧ (r * r : Int) = d ∧ f + 1 ≤ n ∧ (n - 1 - 2 * f : Int) * r = 2 * k + (n - 1) * (l - m) := by
  by_cases hs : ∃ r : Nat, (r * r : Int) = d
  · obtain ⟨r, hr⟩ := hs
    right
    have hr1 : 1 ≤ r := by
      rcases Nat.eq_zero_or_pos r with h | h
      · subst h; simp at hr; exact absurd hr.symm h0
      · exact h
    obtain ⟨f, hf, e⟩ := S.trace (d := (r : Int)) hn (by rw [nR_int]; exact hc) (by rw [hr, hd]) (by
      rw [nR_int]
      intro h
      rcases Int.mul_eq_zero.1 h with h | h
      · omega
      · omega)
    rw [nR_int, nR_int] at e
    exact ⟨r, f, hr1, hr, hf, e⟩
  · exact .inl (S.nosq hn hc hd fun r h => hs ⟨r, h⟩)
end Go.Proofs.YtlmjlffipinjiabDoor.Sg

namespace Go.Proofs.YtlmjlffipinjiabDoor.Sg

structure Gr (n : Nat) (A : Nat → Nat → Int) : Prop where
  bit : ∀ a b, a < n → b < n → A a b = 0 ∨ A a b = 1
  sym : ∀ a b, a < n → b < n → A a b = A b a
  diag : ∀ a, a < n → A a a = 0
def dgG (n : Nat) (A : Nat → Nat → Int) (a : Nat) : Int := sR n (A a)
def cmG (n : Nat) (A : Nat → Nat → Int) (a b : Nat) : Int := sR n fun c => A a c * A b c
/-- Of one degree, of one number for the joined, of one for the others. -/
structure Stg (n : Nat) (k l m : Int) (A : Nat → Nat → Int) : Prop where
  deg : ∀ a, a < n → dgG n A a = k
  near : ∀ a b, a < n → b < n → A a b = 1 → cmG n A a b = l
  far : ∀ a b, a < n → b < n → a ≠ b → A a b = 0 → cmG n A a b = m
theorem sR_nonneg {f : Nat → Int} : ∀ {n : Nat}, (∀ i, i < n → 0 ≤ f i) → 0 ≤ sR n f
  | 0, _ => Int.le_refl _
  | n + 1, h => by
    have h1 := sR_nonneg (n := n) fun i hi => h i (by omega)
    have h2 := h n (by omega)
    rw [sR]; omega
theorem sR_mono {f g : Nat → Int} : ∀ {n : Nat}, (∀ i, i < n → f i ≤ g i) → sR n f ≤ sR n g
  | 0, _ => Int.le_refl _
  | n + 1, h => by
    have h1 := sR_mono (n := n) fun i hi => h i (by omega)
    have h2 := h n (by omega)
    rw [sR, sR]; omega
/-- Less at one place. -/
theorem sR_less {f g : Nat → Int} : ∀ {n : Nat}, (∀ i, i < n → f i ≤ g i) → ∀ k, k < n → f k + 1 ≤ g k → sR n f + 1 ≤ sR n g
  | 0, _, k, hk, _ => by omega
  | n + 1, h, k, hk, h1 => by
    rw [sR, sR]
    by_cases e : k = n
    · subst e
      have := sR_mono (n := k) fun i hi => h i (by omega)
      omega
    · have := sR_less (n := n) (fun i hi => h i (by omega)) k (by omega) h1
      have := h n (by omega)
      omega
theorem sR_some {f : Nat → Int} : ∀ {n : Nat}, sR n f ≠ 0 → ∃ i, i < n ∧ f i ≠ 0
  | 0, h => absurd rfl h
  | n + 1, h => by
    by_cases e : f n = 0
    · rw [sR, e, Int.add_zero] at h
      obtain ⟨i, hi, k⟩ := sR_some h
      exact ⟨i, by omega, k⟩
    · exact ⟨n, by omega, e⟩
theorem sR_int (c : Int) (n : Nat) : sR n (fun _ => c) = n * c := by
  have e : sR n (fun _ => c) = sR n (fun _ => c * 1) := sR_congr fun _ _ => by omega
  rw [e, sR_mul, sR_one, nR_int, Int.mul_comm]
theorem sR_swap (f : Nat → Nat → Int) (m : Nat) : ∀ n, sR n (fun i => sR m (fun j => f i j)) = sR m (fun j => sR n (fun i => f i j))
  | 0 => by simp only [sR]; rw [sR_nil]
  | n + 1 => by
    rw [sR, sR_swap f m n, ← sR_add]
    exact sR_congr fun j _ => rfl
section
variable {n : Nat} {A : Nat → Nat → Int}
theorem Gr.at (G : Gr n A) {a b : Nat} (ha : a < n) (hb : b < n) : 0 ≤ A a b ∧ A a b ≤ 1 := by
  rcases G.bit a b ha hb with h | h <;> omega
theorem Gr.cm_self (G : Gr n A) {a : Nat} (ha : a < n) : cmG n A a a = dgG n A a := sR_congr fun c hc => by
  rcases G.bit a c ha hc with h | h <;> rw [h] <;> rfl
theorem Gr.cm_sym (a b : Nat) : cmG n A a b = cmG n A b a := sR_congr fun _ _ => Int.mul_comm _ _
theorem Gr.cm_at (G : Gr n A) {a b : Nat} (ha : a < n) (hb : b < n) : 0 ≤ cmG n A a b ∧ cmG n A a b ≤ dgG n A a := by
  refine ⟨sR_nonneg fun c hc => ?_, sR_mono fun c hc => ?_⟩
  · exact Int.mul_nonneg (G.at ha hc).1 (G.at hb hc).1
  · rcases G.bit a c ha hc with h | h <;> rcases G.bit b c hb hc with h' | h' <;> rw [h, h'] <;> decide
theorem Gr.cm_less (G : Gr n A) {a b : Nat} (ha : a < n) (hb : b < n) (h : A a b = 1) : cmG n A a b + 1 ≤ dgG n A a := by
  refine sR_less (fun c hc => ?_) b hb ?_
  · rcases G.bit a c ha hc with h | h <;> rcases G.bit b c hb hc with h' | h' <;> rw [h, h'] <;> decide
  · rw [G.diag b hb, h]
    decide
theorem Gr.dg_less (G : Gr n A) {a : Nat} (ha : a < n) : 0 ≤ dgG n A a ∧ dgG n A a + 1 ≤ n := by
  refine ⟨sR_nonneg fun c hc => (G.at ha hc).1, ?_⟩
  have h := sR_less (f := A a) (g := fun _ => 1) (fun c hc => (G.at ha hc).2) a ha (by rw [G.diag a ha]; decide)
  rw [sR_int] at h
  unfold dgG
  omega
theorem Gr.full (G : Gr n A) {a : Nat} (ha : a < n) (h : dgG n A a + 1 = n) {b : Nat} (hb : b < n) (hne : b ≠ a) : A a b = 1 := by
  rcases G.bit a b ha hb with k | k
  · exfalso
    have h1 := sR_less (f := A a) (g := fun c => 1 - idR a c) (fun c hc => by
      show A a c ≤ 1 - idR a c
      unfold idR
      by_cases e : a = c
      · subst e; rw [if_pos rfl, G.diag a ha]; decide
      · rw [if_neg e]; have := (G.at ha hc).2; omega) b hb (by
      show A a b + 1 ≤ 1 - idR a b
      unfold idR
      rw [if_neg fun e => hne e.symm, k]
      decide)
    have e : sR n (fun c => 1 - idR a c : Nat → Int) = sR n (fun c => 1 * 1 + (-1) * (idR a c * 1)) := sR_congr fun c _ => by omega
    rw [e, sR_two, sR_one, nR_int, sR_id (fun _ => 1) a n, if_pos ha] at h1
    unfold dgG at h
    omega
  · exact k
theorem Stg.sr {k l m : Int} (S : Stg n k l m A) (G : Gr n A) : SrR n k l m A where
  row a ha := S.deg a ha
  col b hb := by
    rw [← S.deg b hb]
    exact sR_congr fun h hh => G.sym h b hh hb
  diag := G.diag
  sq a b ha hb := by
    have e : sR n (fun h => A a h * A h b) = cmG n A a b := sR_congr fun h hh => by rw [G.sym h b hh hb]
    rw [e]
    unfold idR
    by_cases h : a = b
    · subst h
      rw [if_pos rfl, G.cm_self ha, S.deg a ha, G.diag a ha]
      omega
    · rw [if_neg h]
      rcases G.bit a b ha hb with k | k
      · rw [S.far a b ha hb h k, k]; omega
      · rw [S.near a b ha hb k, k]; omega
theorem SrR.count {k l m : Int} (S : SrR n k l m A) (hn : 1 ≤ n) : k * (k - l - 1) = (n - k - 1) * m := by
  have h0 : 0 < n := hn
  have e1 : sR n (fun b => sR n (fun h => A 0 h * A h b)) = k * k := by
    rw [sR_swap]
    have : sR n (fun h => sR n (fun b => A 0 h * A h b)) = sR n (fun h => k * A 0 h) := sR_congr fun h hh => by
      rw [sR_mul, show sR n (fun b => A h b) = k from S.row h hh, Int.mul_comm]
    rw [this, sR_mul, show sR n (fun b => A 0 b) = k from S.row 0 h0]
  have e2 : sR n (fun b => sR n (fun h => A 0 h * A h b)) = sR n (fun b => (k - m) * (idR 0 b * 1) + (l - m) * A 0 b + m * 1) := sR_congr fun b hb => by
    rw [S.sq 0 b h0 hb]
    grind
  rw [e1, sR_three, sR_id (fun _ => 1) 0 n, if_pos h0, sR_one, nR_int, show sR n (fun b => A 0 b) = k from S.row 0 h0] at e2
  grind
end
end Go.Proofs.YtlmjlffipinjiabDoor.Sg

namespace Go.Proofs.YtlmjlffipinjiabDoor.Sg
section
variable {n : Nat} {A : Nat → Nat → Int}
theorem sq_pos' {x : Int} (h : x ≠ 0) : 1 ≤ x * x := by
  rcases Int.lt_or_gt_of_ne h with k | k
  · have := Int.mul_le_mul (a := 1) (b := 1) (c := -x) (d := -x) (by omega) (by omega) (by omega) (by omega)
    rw [Int.neg_mul_neg] at this
    omega
  · have := Int.mul_le_mul (a := 1) (b := 1) (c := x) (d := x) (by omega) (by omega) (by omega) (by omega)
    omega
theorem sq_nn (x : Int) : 0 ≤ x * x := by
  by_cases h : x = 0
  · subst h; decide
  · have := sq_pos' h; omega
/-- What is strong, with somebody joined, fits; m is 0 where all are joined. -/
theorem Stg.fits {k l m d : Int} (S : Stg n k l m A) (G : Gr n A) (hn : 1 ≤ n) (hk : 1 ≤ k) (hm : (∃ a b, a < n ∧ b < n ∧ a ≠ b ∧ A a b = 0) ∨ m = 0) (hd : d = (l - m) * (l - m) + 4 * (k - m)) :
    k * (k - l - 1) = (n - k - 1) * m ∧ 0 ≤ l ∧ l + 1 ≤ k ∧ 0 ≤ m ∧ m ≤ k ∧ k + 1 ≤ n ∧
    ((2 * k + (n - 1) * (l - m) = 0 ∧ n % 2 = 1) ∨ ∃ r f : Nat, 1 ≤ r ∧ (r * r : Int) = d ∧ f + 1 ≤ n ∧ (n - 1 - 2 * f : Int) * r = 2 * k + (n - 1) * (l - m)) := by
  have h0 : 0 < n := hn
  have d0 := S.deg 0 h0
  obtain ⟨b, hb, hA⟩ : ∃ b, b < n ∧ A 0 b ≠ 0 := sR_some (by show dgG n A 0 ≠ 0; omega)
  have hA1 : A 0 b = 1 := by
    rcases G.bit 0 b h0 hb with h | h
    · exact absurd h hA
    · exact h
  have l0 := G.cm_less h0 hb hA1
  have l1 := (G.cm_at h0 hb).1
  rw [S.near 0 b h0 hb hA1] at l0 l1
  have kn := (G.dg_less h0).2
  have hm2 : 0 ≤ m ∧ m ≤ k := by
    rcases hm with ⟨a, c, ha, hc, hne, hz⟩ | h
    · have := G.cm_at ha hc
      rw [S.far a c ha hc hne hz, S.deg a ha] at this
      exact this
    · omega
  have hdn : d ≠ 0 := by
    by_cases e : l = m
    · subst e
      rw [Int.sub_self] at hd
      omega
    · have := sq_pos' (x := l - m) (by omega)
      omega
  have C := (S.sr G).count hn
  exact ⟨C, l1, by omega, hm2.1, hm2.2, by omega, (S.sr G).fits hn C hd hdn⟩
/-- What is not joined. -/
def otG (A : Nat → Nat → Int) (a b : Nat) : Int := if a = b then 0 else 1 - A a b
theorem otG_id (G : Gr n A) {a b : Nat} (ha : a < n) (hb : b < n) : otG A a b = 1 - idR a b - A a b := by
  unfold otG idR
  by_cases h : a = b
  · subst h; rw [if_pos rfl, if_pos rfl, G.diag a ha]; decide
  · rw [if_neg h, if_neg h]; omega
theorem Gr.other (G : Gr n A) : Gr n (otG A) where
  bit a b ha hb := by
    unfold otG
    split
    · exact .inl rfl
    · rcases G.bit a b ha hb with h | h <;> rw [h]
      · exact .inr rfl
      · exact .inl rfl
  sym a b ha hb := by
    unfold otG
    by_cases h : a = b
    · rw [if_pos h, if_pos h.symm]
    · rw [if_neg h, if_neg fun e => h e.symm, G.sym a b ha hb]
  diag a _ := if_pos rfl
theorem otG_otG (G : Gr n A) {a b : Nat} (ha : a < n) : otG (otG A) a b = A a b := by
  unfold otG
  by_cases h : a = b
  · subst h; rw [if_pos rfl, G.diag a ha]
  · rw [if_neg h, if_neg h]; omega
theorem ot_deg (G : Gr n A) {a : Nat} (ha : a < n) : dgG n (otG A) a = n - 1 - dgG n A a := by
  have e : dgG n (otG A) a = sR n (fun b => 1 * 1 + (-1) * (idR a b * 1) + (-1) * A a b) := sR_congr fun b hb => by rw [otG_id G ha hb]; omega
  rw [e, sR_three, sR_one, nR_int, sR_id (fun _ => 1) a n, if_pos ha]
  show _ = (n : Int) - 1 - sR n (A a)
  omega
theorem ot_cm (G : Gr n A) {a b : Nat} (ha : a < n) (hb : b < n) (hne : a ≠ b) : cmG n (otG A) a b = n - 2 - dgG n A a - dgG n A b + 2 * A a b + cmG n A a b := by
  have e : cmG n (otG A) a b = sR n (fun c => (1 * 1 + (-1) * A a c + (-1) * A b c) + (1 * (idR a c * (idR b c - 1 + A b c)) + 1 * (idR b c * (A a c - 1)) + 1 * (A a c * A b c))) := sR_congr fun c hc => by
    rw [otG_id G ha hc, otG_id G hb hc]
    generalize (idR a c : Int) = x
    generalize (idR b c : Int) = y
    grind
  have e1 : (idR b a : Int) = 0 := if_neg fun h => hne h.symm
  rw [e, sR_add, sR_three, sR_three, sR_one, nR_int, sR_id _ a n, if_pos ha, sR_id _ b n, if_pos hb, e1, G.sym b a hb ha]
  show (1 : Int) * n + -1 * dgG n A a + -1 * dgG n A b + (1 * (0 - 1 + A a b) + 1 * (A a b - 1) + 1 * cmG n A a b) = _
  omega
theorem Stg.other {k l m : Int} (S : Stg n k l m A) (G : Gr n A) : Stg n (n - 1 - k) (n - 2 - 2 * k + m) (n - 2 * k + l) (otG A) where
  deg a ha := by rw [ot_deg G ha, S.deg a ha]
  near a b ha hb h := by
    have hne : a ≠ b := fun e => by
      subst e
      rw [G.other.diag a ha] at h
      exact absurd h (by decide)
    have hz : A a b = 0 := by
      unfold otG at h
      rw [if_neg hne] at h
      omega
    rw [ot_cm G ha hb hne, S.deg a ha, S.deg b hb, S.far a b ha hb hne hz, hz]
    omega
  far a b ha hb hne h := by
    have hz : A a b = 1 := by
      unfold otG at h
      rw [if_neg hne] at h
      omega
    rw [ot_cm G ha hb hne, S.deg a ha, S.deg b hb, S.near a b ha hb hz, hz]
    omega
/-- Each two have just one in common. -/
def Fri (n : Nat) (A : Nat → Nat → Int) : Prop := ∀ a b, a < n → b < n → a ≠ b → cmG n A a b = 1
theorem Fri.one (F : Fri n A) (G : Gr n A) {a b c c' : Nat} (ha : a < n) (hb : b < n) (hne : a ≠ b) (hc : c < n) (hc' : c' < n) (h1 : A a c = 1) (h2 : A b c = 1) (h3 : A a c' = 1) (h4 : A b c' = 1) : c = c' := by
  by_cases e : c = c'
  · exact e
  · exfalso
    have k := sR_less (f := idR c) (g := fun x => A a x * A b x) (fun x hx => by
      show idR c x ≤ A a x * A b x
      unfold idR
      by_cases q : c = x
      · subst q; rw [if_pos rfl, h1, h2]; decide
      · rw [if_neg q]; exact Int.mul_nonneg (G.at ha hx).1 (G.at hb hx).1) c' hc' (by
      show idR c c' + 1 ≤ A a c' * A b c'
      unfold idR
      rw [if_neg e, h3, h4]
      decide)
    have e2 : sR n (idR c : Nat → Int) = 1 := by
      have := sR_id (fun _ => 1) c n
      rw [if_pos hc] at this
      rw [← this]
      exact sR_congr fun x _ => by omega
    have e3 : sR n (fun x => A a x * A b x) = 1 := F a b ha hb hne
    omega
theorem Fri.deg (F : Fri n A) (G : Gr n A) {a b : Nat} (ha : a < n) (hb : b < n) (hz : A a b = 0) : dgG n A a = dgG n A b := by
  have half : ∀ {a b : Nat}, a < n → b < n → A a b = 0 → sR n (fun c => A a c * cmG n A c b) = dgG n A a := fun {a b} ha hb hz => sR_congr fun c hc => by
    rcases G.bit a c ha hc with h | h
    · rw [h]; omega
    · have : c ≠ b := fun e => by subst e; omega
      rw [F c b hc hb this, h]; decide
  rw [← half ha hb hz, ← half hb ha ((G.sym b a hb ha).trans hz)]
  have e1 : sR n (fun c => A a c * cmG n A c b) = sR n (fun c => sR n fun x => A a c * (A c x * A b x)) := sR_congr fun c _ => (sR_mul _ _ _).symm
  have e2 : sR n (fun c => A b c * cmG n A c a) = sR n (fun c => sR n fun x => A b c * (A c x * A a x)) := sR_congr fun c _ => (sR_mul _ _ _).symm
  rw [e1, e2, sR_swap]
  exact sR_congr fun x hx => sR_congr fun c hc => by rw [G.sym c x hc hx]; grind
/-- Somebody is joined to all. -/
theorem Fri.friend (F : Fri n A) (G : Gr n A) (hn : 1 ≤ n) : ∃ x, x < n ∧ ∀ b, b < n → b ≠ x → A x b = 1 := by
  have h0 : 0 < n := hn
  have ud : ∀ {a b : Nat}, a < n → b < n → dgG n A a ≠ dgG n A b → A a b = 1 := fun {a b} ha hb h => by
    rcases G.bit a b ha hb with k | k
    · exact absurd (F.deg G ha hb k) h
    · exact k
  by_cases hall : ∀ a, a < n → dgG n A a = dgG n A 0
  · obtain ⟨k, hk⟩ : ∃ k, dgG n A 0 = k := ⟨_, rfl⟩
    rw [hk] at hall
    have S : Stg n k 1 1 A := ⟨hall, fun a b ha hb h => F a b ha hb fun e => by
      subst e
      rw [G.diag a ha] at h
      exact absurd h (by decide), fun a b ha hb hne _ => F a b ha hb hne⟩
    have C := (S.sr G).count hn
    have kn := G.dg_less h0
    rw [hk] at kn
    have hfull : k + 1 = n → ∃ x, x < n ∧ ∀ b, b < n → b ≠ x → A x b = 1 := fun e => ⟨0, h0, fun b hb hne => G.full h0 (by rw [hk]; exact e) hb hne⟩
    by_cases hk1 : k ≤ 1
    · refine hfull ?_
      rcases (show k = 0 ∨ k = 1 by omega) with e | e
      · subst e; omega
      · subst e; omega
    · have hd : (4 * (k - 1) : Int) = (1 - 1) * (1 - 1) + 4 * (k - 1) := by omega
      rcases (S.sr G).fits hn C hd (by omega) with ⟨e, _⟩ | ⟨r, f, hr, hr2, hf, e⟩
      · omega
      · have e' : ((n : Int) - 1 - 2 * f) * r = 2 * k := by rw [e]; omega
        have hev : r % 2 = 0 := by
          rcases Nat.mod_two_eq_zero_or_one r with h | h
          · exact h
          · exfalso
            have : (r * r) % 2 = 1 := by rw [Nat.mul_mod, h]
            have h3 : ((r * r : Nat) : Int) = 4 * (k - 1) := by rw [← hr2]; simp
            omega
        obtain ⟨s, rfl⟩ : ∃ s, r = 2 * s := ⟨r / 2, by omega⟩
        have hs : (s : Int) * s = k - 1 := by
          have : ((2 * s : Nat) : Int) = 2 * s := by simp
          rw [this] at hr2
          grind
        have hs2 : ((n : Int) - 1 - 2 * f - s) * s = 1 := by
          have : ((2 * s : Nat) : Int) = 2 * s := by simp
          rw [this] at e'
          grind
        have hs3 : s = 1 := by
          have : (s : Int) ∣ 1 := ⟨(n : Int) - 1 - 2 * f - s, hs2.symm.trans (Int.mul_comm _ _)⟩
          have := Int.le_of_dvd (by decide) this
          omega
        subst hs3
        have k2 : k = 2 := by omega
        subst k2
        refine hfull ?_
        omega
  · obtain ⟨v, hv'⟩ := Classical.not_forall.1 hall
    have hv : v < n := Classical.byContradiction fun h => hv' fun k => absurd k h
    have hne : dgG n A v ≠ dgG n A 0 := fun h => hv' fun _ => h
    have hv0 : v ≠ 0 := fun e => hne (by rw [e])
    -- the core: u and v of unlike degrees, w joined to both, of another degree than u
    have core : ∀ u v w, u < n → v < n → w < n → v ≠ w → dgG n A v ≠ dgG n A u → dgG n A w ≠ dgG n A u → ∃ x, x < n ∧ ∀ b, b < n → b ≠ x → A x b = 1 := fun u v w hu hv hw hvw h1 h2 => ⟨u, hu, fun b hb hbu => by
      refine ud hu hb fun e => hbu ?_
      exact F.one G hv hw hvw hb hu (ud hv hb fun q => h1 (q.trans e.symm)) (ud hw hb fun q => h2 (q.trans e.symm)) (ud hv hu h1) (ud hw hu h2)⟩
    obtain ⟨w, hw, hww⟩ : ∃ w, w < n ∧ A v w * A 0 w ≠ 0 := sR_some (by
      have : sR n (fun c => A v c * A 0 c) = 1 := F v 0 hv h0 hv0
      omega)
    have w1 : w ≠ v := fun e => by subst e; rw [G.diag w hw] at hww; simp at hww
    have w2 : w ≠ 0 := fun e => by subst e; rw [G.diag 0 hw] at hww; simp at hww
    by_cases hd : dgG n A w = dgG n A 0
    · exact core v 0 w hv h0 hw (fun e => w2 e.symm) (fun e => hne e.symm) (fun e => hne (e.symm.trans hd))
    · exact core 0 v w h0 hv hw (fun e => w1 e.symm) hne hd
end
end Go.Proofs.YtlmjlffipinjiabDoor.Sg

/- The graph of a Latin square is strong. Nothing of the program. -/
/- Three ways to part the places: the graphs of Latin squares are strong. Nothing of the program. -/
namespace Go.Proofs.YtlmjlffipinjiabDoor.Sg
section
/-- Places that are alike in one way. -/
def akG (f : Nat → Nat) (a b : Nat) : Int := if f a = f b then 1 else 0
/-- f parts v places into classes of n each. -/
def Par (v n : Nat) (f : Nat → Nat) : Prop := ∀ a, a < v → sR v (akG f a) = n
/-- Each class of f meets each of g just once. -/
def Crs (v : Nat) (f g : Nat → Nat) : Prop := ∀ a b, a < v → b < v → (sR v fun c => akG f a c * akG g b c) = 1
theorem ak_self {v n : Nat} {f : Nat → Nat} (h : Par v n f) {a b : Nat} (ha : a < v) : (sR v fun c => akG f a c * akG f b c) = n * akG f a b := by
  by_cases e : f a = f b
  · have h1 : akG f a b = 1 := if_pos e
    rw [h1, Int.mul_one, ← h a ha]
    exact sR_congr fun c _ => by
      unfold akG
      rw [e]
      split <;> rfl
  · have h1 : akG f a b = 0 := if_neg e
    rw [h1, Int.mul_zero, ← sR_nil v]
    exact sR_congr fun c _ => by
      unfold akG
      by_cases k : f a = f c
      · rw [if_neg (c := f b = f c) fun q => e (k.trans q.symm)]; omega
      · rw [if_neg k]; omega
theorem ak_sym (f : Nat → Nat) (a b : Nat) : akG f a b = akG f b a := by
  unfold akG
  by_cases e : f a = f b
  · rw [if_pos e, if_pos e.symm]
  · rw [if_neg e, if_neg fun q => e q.symm]
theorem ak_diag (f : Nat → Nat) (a : Nat) : akG f a a = 1 := if_pos rfl
theorem ak_bit (f : Nat → Nat) (a b : Nat) : akG f a b = 0 ∨ akG f a b = 1 := by
  unfold akG
  split
  · exact .inr rfl
  · exact .inl rfl
theorem Crs.symm {v : Nat} {f g : Nat → Nat} (h : Crs v f g) : Crs v g f := fun a b ha hb => by
  rw [← h b a hb ha]
  exact sR_congr fun c _ => Int.mul_comm _ _
/-- Alike in two ways: the same. -/
theorem Crs.one {v : Nat} {f g : Nat → Nat} (h : Crs v f g) {a b : Nat} (ha : a < v) (hb : b < v) (hne : a ≠ b) : akG f a b + akG g a b ≤ 1 := by
  rcases ak_bit f a b with e1 | e1 <;> rcases ak_bit g a b with e2 | e2
  · omega
  · omega
  · omega
  · exfalso
    have k := sR_less (f := idR a) (g := fun c => akG f a c * akG g a c) (fun c _ => by
      show idR a c ≤ akG f a c * akG g a c
      unfold idR
      by_cases q : a = c
      · subst q; rw [if_pos rfl, ak_diag, ak_diag]; decide
      · rw [if_neg q]
        rcases ak_bit f a c with e1 | e1 <;> rcases ak_bit g a c with e2 | e2 <;> rw [e1, e2] <;> decide) b hb (by
      show idR a b + 1 ≤ akG f a b * akG g a b
      unfold idR
      rw [if_neg hne, e1, e2]
      decide)
    have e3 : sR v (idR a : Nat → Int) = 1 := by
      have := sR_id (fun _ => 1) a v
      rw [if_pos ha] at this
      rw [← this]
      exact sR_congr fun x _ => by omega
    have e4 : (sR v fun c => akG f a c * akG g a c) = 1 := h a a ha ha
    omega
/-- Joined: alike in one of three ways. -/
def tpG (f g h : Nat → Nat) (a b : Nat) : Int := akG f a b + akG g a b + akG h a b - 3 * idR a b
theorem id_self (a : Nat) : (idR a a : Int) = 1 := if_pos rfl
theorem id_sym (a b : Nat) : (idR a b : Int) = idR b a := by
  unfold idR
  by_cases e : a = b
  · rw [if_pos e, if_pos e.symm]
  · rw [if_neg e, if_neg fun q => e q.symm]
variable {v n : Nat} {f g h : Nat → Nat}
theorem tp_gr (c1 : Crs v f g) (c2 : Crs v f h) (c3 : Crs v g h) : Gr v (tpG f g h) where
  bit a b ha hb := by
    unfold tpG
    by_cases e : a = b
    · subst e
      rw [ak_diag, ak_diag, ak_diag, id_self]
      exact .inl rfl
    · have k1 := c1.one ha hb e
      have k2 := c2.one ha hb e
      have k3 := c3.one ha hb e
      have k4 : (idR a b : Int) = 0 := if_neg e
      rw [k4]
      rcases ak_bit f a b with e1 | e1 <;> rcases ak_bit g a b with e2 | e2 <;> rcases ak_bit h a b with e3 | e3 <;> omega
  sym a b _ _ := by unfold tpG; rw [ak_sym f, ak_sym g, ak_sym h, id_sym]
  diag a _ := by unfold tpG; rw [ak_diag, ak_diag, ak_diag, id_self]; rfl
theorem tp_deg (p1 : Par v n f) (p2 : Par v n g) (p3 : Par v n h) {a : Nat} (ha : a < v) : dgG v (tpG f g h) a = 3 * (n - 1) := by
  have e : dgG v (tpG f g h) a = sR v (fun c => 1 * akG f a c + 1 * akG g a c + (1 * akG h a c + (-3) * (idR a c * 1))) := sR_congr fun c _ => by unfold tpG; omega
  rw [e, sR_four, show sR v (fun c => akG f a c) = n from p1 a ha, show sR v (fun c => akG g a c) = n from p2 a ha, show sR v (fun c => akG h a c) = n from p3 a ha, sR_id (fun _ => 1) a v, if_pos ha]
  omega
theorem tp_cm (p1 : Par v n f) (p2 : Par v n g) (p3 : Par v n h) (c1 : Crs v f g) (c2 : Crs v f h) (c3 : Crs v g h) {a b : Nat} (ha : a < v) (hb : b < v) :
    cmG v (tpG f g h) a b = n * (akG f a b + akG g a b + akG h a b) + 6 - 6 * (akG f a b + akG g a b + akG h a b) + 9 * idR a b := by
  have e : cmG v (tpG f g h) a b = sR v (fun c => (1 * (akG f a c * akG f b c) + 1 * (akG g a c * akG g b c) + 1 * (akG h a c * akG h b c)) + ((1 * (akG f a c * akG g b c) + 1 * (akG g a c * akG f b c) + 1 * (akG f a c * akG h b c)) + ((1 * (akG h a c * akG f b c) + 1 * (akG g a c * akG h b c) + 1 * (akG h a c * akG g b c)) + ((-3) * (idR a c * (akG f b c + akG g b c + akG h b c)) + (-3) * (idR b c * (akG f a c + akG g a c + akG h a c)) + 9 * (idR a c * idR b c))))) := sR_congr fun c _ => by
    unfold tpG
    generalize (idR a c : Int) = x
    generalize (idR b c : Int) = y
    grind
  rw [e]
  simp only [sR_add, sR_mul]
  rw [ak_self p1 ha, ak_self p2 ha, ak_self p3 ha, c1 a b ha hb, c1.symm a b ha hb, c2 a b ha hb, c2.symm a b ha hb, c3 a b ha hb, c3.symm a b ha hb, sR_id _ a v, if_pos ha, sR_id _ b v, if_pos hb, sR_id _ a v, if_pos ha, ak_sym f b a, ak_sym g b a, ak_sym h b a, id_sym b a]
  grind
/-- The graph of three ways is strong. -/
theorem tp_stg (p1 : Par v n f) (p2 : Par v n g) (p3 : Par v n h) (c1 : Crs v f g) (c2 : Crs v f h) (c3 : Crs v g h) : Stg v (3 * (n - 1)) n 6 (tpG f g h) where
  deg a ha := tp_deg p1 p2 p3 ha
  near a b ha hb k := by
    have hne : a ≠ b := fun e => by
      subst e
      rw [(tp_gr c1 c2 c3).diag a ha] at k
      exact absurd k (by decide)
    have k4 : (idR a b : Int) = 0 := if_neg hne
    rw [tp_cm p1 p2 p3 c1 c2 c3 ha hb, k4]
    unfold tpG at k
    rw [k4] at k
    have : akG f a b + akG g a b + akG h a b = 1 := by omega
    rw [this]
    omega
  far a b ha hb hne k := by
    have k4 : (idR a b : Int) = 0 := if_neg hne
    rw [tp_cm p1 p2 p3 c1 c2 c3 ha hb, k4]
    unfold tpG at k
    rw [k4] at k
    have : akG f a b + akG g a b + akG h a b = 0 := by omega
    rw [this]
    omega
end
end Go.Proofs.YtlmjlffipinjiabDoor.Sg

namespace Go.Proofs.YtlmjlffipinjiabDoor.Sg
section
theorem sR_app (F : Nat → Int) (m : Nat) : ∀ n, sR (m + n) F = sR m F + sR n fun j => F (m + j)
  | 0 => by rw [Nat.add_zero, sR]; omega
  | n + 1 => by rw [← Nat.add_assoc, sR, sR, sR_app F m n]; omega
theorem sR_grid (F : Nat → Int) (n : Nat) : ∀ k, sR (k * n) F = sR k fun i => sR n fun j => F (i * n + j)
  | 0 => by rw [Nat.zero_mul]; rfl
  | k + 1 => by rw [Nat.succ_mul, sR_app, sR_grid F n k, sR]
theorem sR_uniq {n j0 : Nat} {f : Nat → Int} (h0 : j0 < n) (h1 : f j0 = 1) (h : ∀ j, j < n → j ≠ j0 → f j = 0) : sR n f = 1 := by
  have e := sR_id (fun _ => 1) j0 n
  rw [if_pos h0] at e
  rw [← e]
  exact sR_congr fun j hj => by
    unfold idR
    by_cases k : j0 = j
    · subst k; rw [if_pos rfl, h1]; decide
    · rw [if_neg k, h j hj fun q => k q.symm]; decide
theorem cell_div {n i j : Nat} (hj : j < n) : (i * n + j) / n = i ∧ (i * n + j) % n = j := by
  have hn : 0 < n := by omega
  constructor
  · rw [Nat.mul_comm, Nat.mul_add_div hn, Nat.div_eq_of_lt hj, Nat.add_zero]
  · rw [Nat.mul_comm, Nat.mul_add_mod, Nat.mod_eq_of_lt hj]
variable {n : Nat} {s : Nat → Nat → Nat}
/-- Just one in each row and in each column. -/
structure LatU (n : Nat) (s : Nat → Nat → Nat) : Prop where
  lt : ∀ i j, i < n → j < n → s i j < n
  row : ∀ i x, i < n → x < n → ∃ j, j < n ∧ s i j = x ∧ ∀ k, k < n → s i k = x → k = j
  col : ∀ j x, j < n → x < n → ∃ i, i < n ∧ s i j = x ∧ ∀ k, k < n → s k j = x → k = i
def roG (n c : Nat) : Nat := c / n
def coG (n c : Nat) : Nat := c % n
def nuG (n : Nat) (s : Nat → Nat → Nat) (c : Nat) : Nat := s (c / n) (c % n)
theorem cell_ltQ {n a : Nat} (ha : a < n * n) : a / n < n ∧ a % n < n := by
  have hn : 0 < n := by
    rcases Nat.eq_zero_or_pos n with h | h
    · subst h; omega
    · exact h
  exact ⟨Nat.div_lt_of_lt_mul ha, Nat.mod_lt _ hn⟩
theorem ro_at (n a : Nat) {i j : Nat} (hj : j < n) : akG (roG n) a (i * n + j) = if a / n = i then 1 else 0 := by
  unfold akG roG
  rw [(cell_div hj).1]
theorem co_at (n a : Nat) {i j : Nat} (hj : j < n) : akG (coG n) a (i * n + j) = if a % n = j then 1 else 0 := by
  unfold akG coG
  rw [(cell_div hj).2]
theorem nu_at (a : Nat) {i j : Nat} (hj : j < n) : akG (nuG n s) a (i * n + j) = if nuG n s a = s i j then 1 else 0 := by
  unfold akG
  rw [show nuG n s (i * n + j) = s i j by unfold nuG; rw [(cell_div hj).1, (cell_div hj).2]]
theorem lat_crs (L : LatU n s) : Crs (n * n) (roG n) (coG n) ∧ Crs (n * n) (roG n) (nuG n s) ∧ Crs (n * n) (coG n) (nuG n s) := by
  refine ⟨fun a b ha hb => ?_, fun a b ha hb => ?_, fun a b ha hb => ?_⟩
  · obtain ⟨a1, a2⟩ := cell_ltQ ha
    obtain ⟨b1, b2⟩ := cell_ltQ hb
    rw [sR_grid]
    refine sR_uniq a1 (sR_uniq b2 ?_ fun j hj hne => ?_) fun i _ hne => ?_
    · rw [ro_at n a b2, co_at n b b2, if_pos rfl, if_pos rfl]; decide
    · rw [ro_at n a hj, co_at n b hj, if_neg (c := b % n = j) fun q => hne q.symm]; omega
    · rw [← sR_nil n]
      exact sR_congr fun j hj => by rw [ro_at n a hj, if_neg fun q => hne q.symm]; omega
  · obtain ⟨a1, a2⟩ := cell_ltQ ha
    obtain ⟨b1, b2⟩ := cell_ltQ hb
    have hx : nuG n s b < n := L.lt _ _ b1 b2
    obtain ⟨j0, h0, e0, u0⟩ := L.row (a / n) _ a1 hx
    rw [sR_grid]
    refine sR_uniq a1 (sR_uniq h0 ?_ fun j hj hne => ?_) fun i _ hne => ?_
    · rw [ro_at n a h0, nu_at b h0, if_pos rfl, if_pos e0.symm]; decide
    · rw [ro_at n a hj, nu_at b hj, if_neg (c := nuG n s b = s (a / n) j) fun q => hne (u0 j hj q.symm)]; omega
    · rw [← sR_nil n]
      exact sR_congr fun j hj => by rw [ro_at n a hj, if_neg fun q => hne q.symm]; omega
  · obtain ⟨a1, a2⟩ := cell_ltQ ha
    obtain ⟨b1, b2⟩ := cell_ltQ hb
    have hx : nuG n s b < n := L.lt _ _ b1 b2
    obtain ⟨i0, h0, e0, u0⟩ := L.col (a % n) _ a2 hx
    rw [sR_grid, sR_swap]
    refine sR_uniq a2 (sR_uniq h0 ?_ fun i hi hne => ?_) fun j hj hne => ?_
    · rw [co_at n a a2, nu_at b a2, if_pos rfl, if_pos e0.symm]; decide
    · rw [co_at n a a2, nu_at b a2, if_neg (c := nuG n s b = s i (a % n)) fun q => hne (u0 i hi q.symm)]; omega
    · rw [← sR_nil n]
      exact sR_congr fun i _ => by rw [co_at n a hj, if_neg fun q => hne q.symm]; omega
theorem lat_par (L : LatU n s) : Par (n * n) n (roG n) ∧ Par (n * n) n (coG n) ∧ Par (n * n) n (nuG n s) := by
  refine ⟨fun a ha => ?_, fun a ha => ?_, fun a ha => ?_⟩
  · obtain ⟨a1, a2⟩ := cell_ltQ ha
    rw [sR_grid, sR_swap]
    have e : sR n (fun j => sR n fun i => akG (roG n) a (i * n + j)) = sR n fun _ => 1 := sR_congr fun j hj => sR_uniq a1 (by rw [ro_at n a hj, if_pos rfl]) fun i _ hne => by rw [ro_at n a hj, if_neg fun q => hne q.symm]
    rw [e, sR_one, nR_int]
  · obtain ⟨a1, a2⟩ := cell_ltQ ha
    rw [sR_grid]
    have e : sR n (fun i => sR n fun j => akG (coG n) a (i * n + j)) = sR n fun _ => 1 := sR_congr fun i _ => sR_uniq a2 (by rw [co_at n a a2, if_pos rfl]) fun j hj hne => by rw [co_at n a hj, if_neg fun q => hne q.symm]
    rw [e, sR_one, nR_int]
  · obtain ⟨a1, a2⟩ := cell_ltQ ha
    have hx : nuG n s a < n := L.lt _ _ a1 a2
    rw [sR_grid]
    have e : sR n (fun i => sR n fun j => akG (nuG n s) a (i * n + j)) = sR n fun _ => 1 := sR_congr fun i hi => by
      obtain ⟨j0, h0, e0, u0⟩ := L.row i _ hi hx
      exact sR_uniq h0 (by rw [nu_at a h0, if_pos e0.symm]) fun j hj hne => by rw [nu_at a hj, if_neg fun q => hne (u0 j hj q.symm)]
    rw [e, sR_one, nR_int]
/-- The graph of a Latin square. -/
def laG (n : Nat) (s : Nat → Nat → Nat) (a b : Nat) : Int := if a ≠ b ∧ (a / n = b / n ∨ a % n = b % n ∨ s (a / n) (a % n) = s (b / n) (b % n)) then 1 else 0
theorem la_tp (L : LatU n s) {a b : Nat} (ha : a < n * n) (hb : b < n * n) : laG n s a b = tpG (roG n) (coG n) (nuG n s) a b := by
  obtain ⟨c1, c2, c3⟩ := lat_crs L
  unfold laG
  by_cases e : a = b
  · subst e
    rw [if_neg (fun k => k.1 rfl), (tp_gr c1 c2 c3).diag a ha]
  · have k1 := c1.one ha hb e
    have k2 := c2.one ha hb e
    have k3 := c3.one ha hb e
    have k4 : (idR a b : Int) = 0 := if_neg e
    unfold tpG
    rw [k4]
    by_cases h1 : a / n = b / n
    · have : akG (roG n) a b = 1 := if_pos h1
      rw [if_pos ⟨e, .inl h1⟩]
      rcases ak_bit (coG n) a b with q | q <;> rcases ak_bit (nuG n s) a b with q' | q' <;> omega
    · have z1 : akG (roG n) a b = 0 := if_neg h1
      by_cases h2 : a % n = b % n
      · have : akG (coG n) a b = 1 := if_pos h2
        rw [if_pos ⟨e, .inr (.inl h2)⟩]
        rcases ak_bit (nuG n s) a b with q' | q' <;> omega
      · have z2 : akG (coG n) a b = 0 := if_neg h2
        by_cases h3 : s (a / n) (a % n) = s (b / n) (b % n)
        · have : akG (nuG n s) a b = 1 := if_pos h3
          rw [if_pos ⟨e, .inr (.inr h3)⟩]
          omega
        · have z3 : akG (nuG n s) a b = 0 := if_neg h3
          rw [if_neg fun k => by rcases k.2 with q | q | q; exact h1 q; exact h2 q; exact h3 q]
          omega
theorem cm_congr {v : Nat} {A B : Nat → Nat → Int} (h : ∀ a b, a < v → b < v → A a b = B a b) {a b : Nat} (ha : a < v) (hb : b < v) : cmG v A a b = cmG v B a b := sR_congr fun c hc => by rw [h a c ha hc, h b c hb hc]
theorem Stg.congr {v : Nat} {k l m : Int} {A B : Nat → Nat → Int} (S : Stg v k l m A) (h : ∀ a b, a < v → b < v → B a b = A a b) : Stg v k l m B where
  deg a ha := by rw [← S.deg a ha]; exact sR_congr fun b hb => h a b ha hb
  near a b ha hb q := by rw [cm_congr h ha hb]; exact S.near a b ha hb (by rw [← h a b ha hb]; exact q)
  far a b ha hb hne q := by rw [cm_congr h ha hb]; exact S.far a b ha hb hne (by rw [← h a b ha hb]; exact q)
/-- The graph of a Latin square is strong. -/
theorem la_stg (L : LatU n s) : Stg (n * n) (3 * (n - 1)) n 6 (laG n s) := by
  obtain ⟨c1, c2, c3⟩ := lat_crs L
  obtain ⟨p1, p2, p3⟩ := lat_par L
  exact (tp_stg p1 p2 p3 c1 c2 c3).congr fun a b ha hb => la_tp L ha hb
end
end Go.Proofs.YtlmjlffipinjiabDoor.Sg

/- The numbers of a strong graph: there is one answer; what it has to do with the other's; a quotient and its parity. Nothing of the program. -/
/- Triangles are strong: by the kernel. Nothing of the program. -/
namespace Go.Proofs.YtlmjlffipinjiabDoor.Sg
/-- Is it strong, of these numbers? -/
def stB (v : Nat) (k l m : Int) (A : Nat → Nat → Int) : Bool :=
  (List.range v).all fun a => decide (dgG v A a = k) && (List.range v).all fun b => a == b || (if A a b = 1 then decide (cmG v A a b = l) else decide (cmG v A a b = m))
theorem stB_stg {v : Nat} {k l m : Int} {A : Nat → Nat → Int} (h : stB v k l m A = true) (hd : ∀ a, a < v → A a a = 0) : Stg v k l m A := by
  have key : ∀ a, a < v → dgG v A a = k ∧ ∀ b, b < v → a = b ∨ (if A a b = 1 then cmG v A a b = l else cmG v A a b = m) := fun a ha => by
    have h1 := List.all_eq_true.1 h a (List.mem_range.2 ha)
    rw [Bool.and_eq_true] at h1
    refine ⟨of_decide_eq_true h1.1, fun b hb => ?_⟩
    have h2 := List.all_eq_true.1 h1.2 b (List.mem_range.2 hb)
    rw [Bool.or_eq_true] at h2
    rcases h2 with q | q
    · exact .inl (by simpa using q)
    · right
      split
      · rename_i e; rw [if_pos e] at q; exact of_decide_eq_true q
      · rename_i e; rw [if_neg e] at q; exact of_decide_eq_true q
  refine ⟨fun a ha => (key a ha).1, fun a b ha hb e => ?_, fun a b ha hb hne e => ?_⟩
  · rcases (key a ha).2 b hb with q | q
    · subst q; rw [hd a ha] at e; exact absurd e (by decide)
    · rwa [if_pos e] at q
  · rcases (key a ha).2 b hb with q | q
    · exact absurd q hne
    · rwa [if_neg (by rw [e]; decide)] at q
/-- The pairs of two of n numbers, as sums of powers of two. -/
def trL (n : Nat) : List Nat := (List.range n).flatMap fun a => (List.range (n - (a + 1))).map fun b => 2 ^ a + 2 ^ (a + 1 + b)
def trG (n a b : Nat) : Int := if a ≠ b ∧ (trL n).getD a 0 &&& (trL n).getD b 0 ≠ 0 then 1 else 0
def trM (l : List Nat) (a b : Nat) : Int := if a ≠ b ∧ l.getD a 0 &&& l.getD b 0 ≠ 0 then 1 else 0
theorem trL4 : trL 4 = [3, 5, 9, 6, 10, 12] := by decide +kernel
theorem trL5 : trL 5 = [3, 5, 9, 17, 6, 10, 18, 12, 20, 24] := by decide +kernel
theorem trL6 : trL 6 = [3, 5, 9, 17, 33, 6, 10, 18, 34, 12, 20, 36, 24, 40, 48] := by decide +kernel
theorem trL7 : trL 7 = [3, 5, 9, 17, 33, 65, 6, 10, 18, 34, 66, 12, 20, 36, 68, 24, 40, 72, 48, 80, 96] := by decide +kernel
theorem tr_diag (l : List Nat) (a : Nat) : trM l a a = 0 := if_neg fun h => h.1 rfl
theorem tr4 : stB 6 4 2 4 (trM [3, 5, 9, 6, 10, 12]) = true := by decide +kernel
theorem tr5 : stB 10 6 3 4 (trM [3, 5, 9, 17, 6, 10, 18, 12, 20, 24]) = true := by decide +kernel
theorem tr6 : stB 15 8 4 4 (trM [3, 5, 9, 17, 33, 6, 10, 18, 34, 12, 20, 36, 24, 40, 48]) = true := by decide +kernel
theorem tr7 : stB 21 10 5 4 (trM [3, 5, 9, 17, 33, 65, 6, 10, 18, 34, 66, 12, 20, 36, 68, 24, 40, 72, 48, 80, 96]) = true := by decide +kernel
/-- Triangles are strong. -/
theorem tr_stg {n : Nat} (h3 : 3 < n) (h7 : n ≤ 7) : Stg (trL n).length (2 * (n - 2)) (n - 2) 4 (trG n) := by
  have e : trG n = trM (trL n) := rfl
  rw [e]
  rcases (show n = 4 ∨ n = 5 ∨ n = 6 ∨ n = 7 by omega) with h | h | h | h <;> subst h
  · rw [trL4]; exact stB_stg tr4 fun a _ => tr_diag _ a
  · rw [trL5]; exact stB_stg tr5 fun a _ => tr_diag _ a
  · rw [trL6]; exact stB_stg tr6 fun a _ => tr_diag _ a
  · rw [trL7]; exact stB_stg tr7 fun a _ => tr_diag _ a
end Go.Proofs.YtlmjlffipinjiabDoor.Sg

namespace Go.Proofs.YtlmjlffipinjiabDoor.Sg
section
/-- The numbers: 0 where there is no such pair. -/
structure StN (n : Nat) (k l m : Int) (A : Nat → Nat → Int) : Prop where
  st : Stg n k l m A
  nl : (∀ a b, a < n → b < n → A a b ≠ 1) → l = 0
  nm : (∀ a b, a < n → b < n → a ≠ b → A a b ≠ 0) → m = 0
variable {n : Nat} {A : Nat → Nat → Int} {k l m k' l' m' : Int}
theorem StN.one (S : StN n k l m A) (T : StN n k' l' m' A) (hn : 1 ≤ n) : k = k' ∧ l = l' ∧ m = m' := by
  refine ⟨(S.st.deg 0 hn).symm.trans (T.st.deg 0 hn), ?_, ?_⟩
  · by_cases h : ∀ a b, a < n → b < n → A a b ≠ 1
    · rw [S.nl h, T.nl h]
    · refine Classical.byContradiction fun q => h fun a b ha hb e => q ?_
      exact (S.st.near a b ha hb e).symm.trans (T.st.near a b ha hb e)
  · by_cases h : ∀ a b, a < n → b < n → a ≠ b → A a b ≠ 0
    · rw [S.nm h, T.nm h]
    · refine Classical.byContradiction fun q => h fun a b ha hb hne e => q ?_
      exact (S.st.far a b ha hb hne e).symm.trans (T.st.far a b ha hb hne e)
theorem Stg.norm (S : Stg n k l m A) : ∃ l m, StN n k l m A := by
  have hl : ∃ l', (∀ a b, a < n → b < n → A a b = 1 → cmG n A a b = l') ∧ ((∀ a b, a < n → b < n → A a b ≠ 1) → l' = 0) := by
    by_cases h : ∀ a b, a < n → b < n → A a b ≠ 1
    · exact ⟨0, fun a b ha hb e => absurd e (h a b ha hb), fun _ => rfl⟩
    · exact ⟨l, S.near, fun q => absurd q h⟩
  have hm : ∃ m', (∀ a b, a < n → b < n → a ≠ b → A a b = 0 → cmG n A a b = m') ∧ ((∀ a b, a < n → b < n → a ≠ b → A a b ≠ 0) → m' = 0) := by
    by_cases h : ∀ a b, a < n → b < n → a ≠ b → A a b ≠ 0
    · exact ⟨0, fun a b ha hb hne e => absurd e (h a b ha hb hne), fun _ => rfl⟩
    · exact ⟨m, S.far, fun q => absurd q h⟩
  obtain ⟨l', h1, h2⟩ := hl
  obtain ⟨m', h3, h4⟩ := hm
  exact ⟨l', m', ⟨S.deg, h1, h3⟩, h2, h4⟩
theorem Stg.edge (S : Stg n k l m A) (G : Gr n A) (hn : 1 ≤ n) (hk : 1 ≤ k) : ∃ a b, a < n ∧ b < n ∧ A a b = 1 := by
  have d0 := S.deg 0 hn
  obtain ⟨b, hb, hA⟩ : ∃ b, b < n ∧ A 0 b ≠ 0 := sR_some (by show dgG n A 0 ≠ 0; omega)
  refine ⟨0, b, hn, hb, ?_⟩
  rcases G.bit 0 b hn hb with h | h
  · exact absurd h hA
  · exact h
theorem Stg.gap (S : Stg n k l m A) (G : Gr n A) (hn : 1 ≤ n) (hk : k + 2 ≤ n) : ∃ a b, a < n ∧ b < n ∧ a ≠ b ∧ A a b = 0 := by
  obtain ⟨a, b, ha, hb, e⟩ := (S.other G).edge G.other hn (by omega)
  have hne : a ≠ b := fun q => by
    subst q
    rw [G.other.diag a ha] at e
    exact absurd e (by decide)
  refine ⟨a, b, ha, hb, hne, ?_⟩
  unfold otG at e
  rw [if_neg hne] at e
  omega
/-- With somebody joined and somebody not, these are the numbers. -/
theorem Stg.stn (S : Stg n k l m A) (G : Gr n A) (hn : 1 ≤ n) (h1 : 1 ≤ k) (h2 : k + 2 ≤ n) : StN n k l m A := by
  obtain ⟨a, b, ha, hb, e⟩ := S.edge G hn h1
  obtain ⟨c, d, hc, hd, hne, e'⟩ := S.gap G hn h2
  exact ⟨S, fun h => absurd e (h a b ha hb), fun h => absurd e' (h c d hc hd hne)⟩
theorem StN.fits {d : Int} (S : StN n k l m A) (G : Gr n A) (hn : 1 ≤ n) (hk : 1 ≤ k) (hd : d = (l - m) * (l - m) + 4 * (k - m)) :
    k * (k - l - 1) = (n - k - 1) * m ∧ 0 ≤ l ∧ l + 1 ≤ k ∧ 0 ≤ m ∧ m ≤ k ∧ k + 1 ≤ n ∧
    ((2 * k + (n - 1) * (l - m) = 0 ∧ n % 2 = 1) ∨ ∃ r f : Nat, 1 ≤ r ∧ (r * r : Int) = d ∧ f + 1 ≤ n ∧ (n - 1 - 2 * f : Int) * r = 2 * k + (n - 1) * (l - m)) := by
  refine S.st.fits G hn hk ?_ hd
  by_cases h : ∀ a b, a < n → b < n → a ≠ b → A a b ≠ 0
  · exact .inr (S.nm h)
  · left
    refine Classical.byContradiction fun q => h fun a b ha hb hne e => q ⟨a, b, ha, hb, hne, e⟩
/-- The other's numbers. -/
theorem StN.other (S : StN n k l m A) (G : Gr n A) : ∃ l' m', StN n (n - 1 - k) l' m' (otG A) ∧ (1 ≤ n → 1 ≤ k → k + 2 ≤ n → l' = n - 2 - 2 * k + m ∧ m' = n - 2 * k + l) := by
  obtain ⟨l', m', T⟩ := (S.st.other G).norm
  refine ⟨l', m', T, fun hn h1 h2 => ?_⟩
  have U := (S.st.other G).stn G.other hn (by omega) (by omega)
  obtain ⟨_, e1, e2⟩ := T.one U hn
  exact ⟨e1, e2⟩
theorem Gr.congr {B : Nat → Nat → Int} (G : Gr n A) (h : ∀ a b, a < n → b < n → B a b = A a b) : Gr n B where
  bit a b ha hb := by rw [h a b ha hb]; exact G.bit a b ha hb
  sym a b ha hb := by rw [h a b ha hb, h b a hb ha]; exact G.sym a b ha hb
  diag a ha := by rw [h a a ha ha]; exact G.diag a ha
/-- Strong, just if the other is. -/
theorem other_strong (G : Gr n A) : (∃ k l m, StN n k l m A) ↔ ∃ k l m, StN n k l m (otG A) := by
  constructor
  · rintro ⟨k, l, m, S⟩
    obtain ⟨l', m', T, _⟩ := S.other G
    exact ⟨_, _, _, T⟩
  · rintro ⟨k, l, m, S⟩
    have T := (S.st.other G.other).congr (B := A) fun a b ha hb => (otG_otG G ha).symm
    obtain ⟨l', m', U⟩ := T.norm
    exact ⟨_, _, _, U⟩
end
/-- How often an eigenvalue comes, or a quotient and its parity: the same. -/
theorem ft_quo {v x : Int} {r : Nat} (hr : 1 ≤ r) : (∃ f : Nat, (f : Int) < v ∧ (v - 1 - 2 * f) * r = x) ↔ x % r = 0 ∧ (x / r - (v - 1)) % 2 = 0 ∧ -(v - 1) ≤ x / r ∧ x / r ≤ v - 1 := by
  have hr0 : (r : Int) ≠ 0 := by omega
  constructor
  · rintro ⟨f, hf, rfl⟩
    rw [Int.mul_emod_left, Int.mul_ediv_cancel _ hr0]
    omega
  · rintro ⟨h1, h2, h3, h4⟩
    obtain ⟨q, rfl⟩ : (r : Int) ∣ x := Int.dvd_of_emod_eq_zero h1
    rw [Int.mul_ediv_cancel_left _ hr0] at h2 h3 h4
    refine ⟨((v - 1 - q) / 2).toNat, by omega, ?_⟩
    have : ((((v - 1 - q) / 2).toNat : Nat) : Int) = (v - 1 - q) / 2 := Int.toNat_of_nonneg (by omega)
    rw [this, Int.mul_comm]
    congr 1
    omega
end Go.Proofs.YtlmjlffipinjiabDoor.Sg

namespace Go.Proofs.YtlmjlffipinjiabDoor.Sg

def gx (n : Nat) (L : List Int) (r c : Nat) : Int := L.getD (r * n + c) 0
theorem cell_ltG {n r c : Nat} (hr : r < n) (hc : c < n) : r * n + c < n * n := by
  have := Nat.mul_le_mul_right n (show r + 1 ≤ n by omega)
  rw [Nat.succ_mul] at this
  omega
def btG (x : Int) : Bool := x == 0 || x == 1
def syB (n : Nat) (A : Nat → Nat → Int) : Bool := (List.range n).all fun a => (List.range n).all fun b => A a b == A b a && !(a == b && A a b == 1)
/-- What is wrong with a graph. -/
def gF (s : Int) (L : List Int) : Nat := if s < 1 ∨ 24 < s then 1 else if L.length ≠ s.toNat * s.toNat then 2 else if (List.range L.length).all (fun j => btG (L.getD j 0)) then if syB s.toNat (gx s.toNat L) then 0 else 4 else 1
structure GoodG (n : Nat) (L : List Int) : Prop where
  pos : 1 ≤ n
  le : n ≤ 24
  len : L.length = n * n
  gr : Gr n (gx n L)
theorem gF_far {s : Int} {L : List Int} (h : s < 1 ∨ 24 < s) : gF s L = 1 := by unfold gF; rw [if_pos h]
theorem gF_shape {n : Nat} {L : List Int} (h1 : 1 ≤ n) (h2 : n ≤ 24) (h : L.length ≠ n * n) : gF n L = 2 := by
  unfold gF
  rw [if_neg (by omega), if_pos (by simpa using h)]
theorem gF_bit {n j : Nat} {L : List Int} (h1 : 1 ≤ n) (h2 : n ≤ 24) (hl : L.length = n * n) (hj : j < n * n) (h : ¬ (L.getD j 0 = 0 ∨ L.getD j 0 = 1)) : gF n L = 1 := by
  unfold gF
  rw [if_neg (by omega), if_neg (by simpa using hl), if_neg]
  intro k
  rw [List.all_eq_true] at k
  have := k j (List.mem_range.2 (by omega))
  unfold btG at this
  exact h (by simpa using this)
theorem gF_on {n : Nat} {L : List Int} (h1 : 1 ≤ n) (h2 : n ≤ 24) (hl : L.length = n * n) (h : ∀ j, j < n * n → L.getD j 0 = 0 ∨ L.getD j 0 = 1) : gF n L = if syB n (gx n L) then 0 else 4 := by
  unfold gF
  rw [if_neg (by omega), if_neg (by simpa using hl), if_pos, Int.toNat_natCast]
  rw [List.all_eq_true]
  intro j hj
  have := h j (by rw [← hl]; exact List.mem_range.1 hj)
  unfold btG
  simpa using this
theorem sy_iff {n : Nat} {A : Nat → Nat → Int} : syB n A = true ↔ ∀ a b, a < n → b < n → A a b = A b a ∧ ¬ (a = b ∧ A a b = 1) := by
  unfold syB
  simp only [List.all_eq_true, List.mem_range, Bool.and_eq_true, Bool.not_eq_true', beq_iff_eq, Bool.and_eq_false_iff, beq_eq_false_iff_ne]
  constructor
  · intro h a b ha hb
    have := h a ha b hb
    refine ⟨this.1, fun k => ?_⟩
    rcases this.2 with q | q
    · exact q k.1
    · exact q k.2
  · intro h a ha b hb
    have := h a b ha hb
    refine ⟨this.1, ?_⟩
    by_cases e : a = b
    · right; exact fun q => this.2 ⟨e, q⟩
    · left; exact e
theorem sy_no {n a b : Nat} {A : Nat → Nat → Int} (ha : a < n) (hb : b < n) (h : ¬ (A a b = A b a ∧ ¬ (a = b ∧ A a b = 1))) : syB n A = false := by
  apply Bool.eq_false_iff.2
  intro k
  exact h (sy_iff.1 k a b ha hb)
theorem gF_good {n : Nat} {L : List Int} (G : GoodG n L) : gF n L = 0 := by
  have hn : 0 < n := G.pos
  rw [gF_on G.pos G.le G.len, if_pos]
  · exact sy_iff.2 fun a b ha hb => ⟨G.gr.sym a b ha hb, fun k => by
      obtain ⟨rfl, k⟩ := k
      rw [G.gr.diag a ha] at k
      exact absurd k (by decide)⟩
  · intro j hj
    have hq : j / n < n := Nat.div_lt_of_lt_mul hj
    have hr : j % n < n := Nat.mod_lt _ hn
    have e : L.getD j 0 = gx n L (j / n) (j % n) := by
      unfold gx
      rw [Nat.mul_comm, Nat.div_add_mod]
    rw [e]
    exact G.gr.bit _ _ hq hr
theorem gF_ok {s : Int} {L : List Int} (h : gF s L = 0) : ∃ n : Nat, s = n ∧ GoodG n L := by
  by_cases h1 : s < 1 ∨ 24 < s
  · rw [gF_far h1] at h; cases h
  · obtain ⟨n, rfl⟩ : ∃ n : Nat, s = n := ⟨s.toNat, by omega⟩
    have p1 : 1 ≤ n := by omega
    have p2 : n ≤ 24 := by omega
    refine ⟨n, rfl, ?_⟩
    by_cases hl : L.length = n * n
    · by_cases hb : ∀ j, j < n * n → L.getD j 0 = 0 ∨ L.getD j 0 = 1
      · rw [gF_on p1 p2 hl hb] at h
        have hs : syB n (gx n L) = true := by
          apply Classical.byContradiction
          intro k
          rw [if_neg k] at h
          cases h
        have hs := sy_iff.1 hs
        refine ⟨p1, p2, hl, fun a b ha hb2 => hb _ (cell_ltG ha hb2), fun a b ha hb2 => (hs a b ha hb2).1, fun a ha => ?_⟩
        rcases hb _ (cell_ltG ha ha) with k | k
        · exact k
        · exact absurd ⟨rfl, k⟩ (hs a a ha ha).2
      · exfalso
        apply hb
        intro j hj
        apply Classical.byContradiction
        intro k
        rw [gF_bit p1 p2 hl hj k] at h
        cases h
    · rw [gF_shape p1 p2 hl] at h; cases h
/-- The pairs that have been looked at, when row a stands at place b. -/
def Done (a b a' b' : Nat) : Prop := b' < a' ∧ (a' < a ∨ (a' = a ∧ b' < b))
/-- What is kept of one kind of pairs. -/
structure Kind (n : Nat) (A : Nat → Nat → Int) (x : Int) (a b : Nat) (z : Int) : Prop where
  all : ∀ a' b', Done a b a' b' → A a' b' = x → cmG n A a' b' = z
  non : (∀ a' b', Done a b a' b' → A a' b' ≠ x) → z = -1
section
variable {n : Nat} {A : Nat → Nat → Int} {x z : Int} {a b : Nat}
theorem Kind.start : Kind n A x 0 0 (-1) := ⟨fun a' b' h => by unfold Done at h; omega, fun _ => rfl⟩
theorem Kind.row (K : Kind n A x a a z) : Kind n A x (a + 1) 0 z := ⟨fun a' b' h e => K.all a' b' (by unfold Done at h ⊢; omega) e, fun h => K.non fun a' b' k => h a' b' (by unfold Done at k ⊢; omega)⟩
theorem Kind.skip (K : Kind n A x a b z) (h : A a b ≠ x) : Kind n A x a (b + 1) z := by
  refine ⟨fun a' b' k e => ?_, fun k => K.non fun a' b' q => k a' b' (by unfold Done at q ⊢; omega)⟩
  by_cases q : a' = a ∧ b' = b
  · obtain ⟨rfl, rfl⟩ := q
    exact absurd e h
  · exact K.all a' b' (by unfold Done at k ⊢; omega) e
theorem Kind.step (K : Kind n A x a b z) (hb : b < a) (h : A a b = x) (hz : z < 0 ∨ z = cmG n A a b) (hg : ∀ a' b', Done a b a' b' → 0 ≤ cmG n A a' b') : Kind n A x a (b + 1) (cmG n A a b) := by
  refine ⟨fun a' b' k e => ?_, fun k => absurd h (k a b (by unfold Done; omega))⟩
  by_cases q : a' = a ∧ b' = b
  · obtain ⟨rfl, rfl⟩ := q
    rfl
  · have d : Done a b a' b' := by unfold Done at k ⊢; omega
    have e1 := K.all a' b' d e
    rcases hz with hz | hz
    · have := hg a' b' d
      omega
    · rw [e1, hz]
/-- Two unlike numbers of one kind. -/
theorem Kind.clash (K : Kind n A x a b z) (hz : 0 ≤ z) (hne : z ≠ cmG n A a b) : ∃ a' b', Done a b a' b' ∧ A a' b' = x ∧ cmG n A a' b' ≠ cmG n A a b := by
  apply Classical.byContradiction
  intro k
  have : z = -1 := K.non fun a' b' d e => k ⟨a', b', d, e, by rw [K.all a' b' d e]; exact hne⟩
  omega
def up0 (z : Int) : Int := if z < 0 then 0 else z
theorem done_lt {a' b' : Nat} (h : Done a b a' b') (ha : a < n) : a' < n ∧ b' < n ∧ a' ≠ b' := by unfold Done at h; omega
/-- When all pairs have been looked at. -/
theorem kinds_stn {k l m : Int} (G : Gr n A) (hd : ∀ a, a < n → dgG n A a = k) (K1 : Kind n A 1 n 0 l) (K0 : Kind n A 0 n 0 m) : StN n k (up0 l) (up0 m) A := by
  have hcm : ∀ a b, a < n → b < n → 0 ≤ cmG n A a b := fun a b ha hb => (G.cm_at ha hb).1
  have key : ∀ (x z : Int), Kind n A x n 0 z → ∀ a b, a < n → b < n → a ≠ b → A a b = x → cmG n A a b = up0 z := fun x z K a b ha hb hne e => by
    have h : cmG n A a b = z := by
      rcases Nat.lt_or_gt_of_ne hne with q | q
      · rw [Gr.cm_sym]
        exact K.all b a (by unfold Done; omega) (by rw [G.sym b a hb ha]; exact e)
      · exact K.all a b (by unfold Done; omega) e
    have := hcm a b ha hb
    unfold up0
    rw [if_neg (by omega)]
    exact h
  refine ⟨⟨hd, fun a b ha hb e => key 1 l K1 a b ha hb (fun q => ?_) e, fun a b ha hb hne e => key 0 m K0 a b ha hb hne e⟩, fun h => ?_, fun h => ?_⟩
  · subst q
    rw [G.diag a ha] at e
    exact absurd e (by decide)
  · rw [K1.non fun a' b' d => by have := done_lt (n := n) (a := n) (b := 0) (a' := a') (b' := b'); unfold Done at d; exact h a' b' (by omega) (by omega)]
    rfl
  · rw [K0.non fun a' b' d => by unfold Done at d; exact h a' b' (by omega) (by omega) (by omega)]
    rfl
theorem stn_deg {k l m : Int} (S : StN n k l m A) {a b : Nat} (ha : a < n) (hb : b < n) : dgG n A a = dgG n A b := by rw [S.st.deg a ha, S.st.deg b hb]
theorem stn_clash {k l m : Int} (S : StN n k l m A) (h01 : x = 0 ∨ x = 1) (ha : a < n) (hb : b < a) (h : A a b = x) {a' b' : Nat} (d : Done a b a' b') (e : A a' b' = x) : cmG n A a' b' = cmG n A a b := by
  obtain ⟨q1, q2, q3⟩ := done_lt d ha
  rcases h01 with rfl | rfl
  · rw [S.st.far a' b' q1 q2 q3 e, S.st.far a b ha (by omega) (by omega) h]
  · rw [S.st.near a' b' q1 q2 e, S.st.near a b ha (by omega) h]
end
/-- What is told of a graph's numbers. -/
def NmT (n : Nat) (A : Nat → Nat → Int) (P D N F : Int) (u : Nat) : Prop := (u = 0 ∧ P = n ∧ StN n D N F A) ∨ (u = 4 ∧ P = 0 ∧ D = 0 ∧ N = 0 ∧ F = 0 ∧ ¬ ∃ k l m, StN n k l m A)
theorem NmT.one {n : Nat} {A : Nat → Nat → Int} {P D N F P' D' N' F' : Int} {u u' : Nat} (h : NmT n A P D N F u) (h' : NmT n A P' D' N' F' u') (hn : 1 ≤ n) : P = P' ∧ D = D' ∧ N = N' ∧ F = F' ∧ u = u' := by
  rcases h with ⟨rfl, rfl, S⟩ | ⟨rfl, rfl, rfl, rfl, rfl, h⟩ <;> rcases h' with ⟨rfl, rfl, S'⟩ | ⟨rfl, rfl, rfl, rfl, rfl, h'⟩
  · obtain ⟨rfl, rfl, rfl⟩ := S.one S' hn
    exact ⟨rfl, rfl, rfl, rfl, rfl⟩
  · exact absurd ⟨_, _, _, S⟩ h'
  · exact absurd ⟨_, _, _, S'⟩ h
  · exact ⟨rfl, rfl, rfl, rfl, rfl⟩
end Go.Proofs.YtlmjlffipinjiabDoor.Sg
