/- Traces of matrices of integers that are, but for a factor, their own squares. Nothing of the program. -/
import Derived.RowKit
namespace Go.Proofs.Ytlmjlffipinjiab

/-- A number as an element. -/
def nR : Nat → Int
  | 0 => 0
  | n + 1 => nR n + 1
/-- A sum of n elements. -/
def sR : Nat → (Nat → Int) → Int
  | 0, _ => 0
  | n + 1, f => sR n f + f n
theorem sR_congr {f g : Nat → Int} : ∀ {n : Nat}, (∀ i, i < n → f i = g i) → sR n f = sR n g
  | 0, _ => rfl
  | n + 1, h => by rw [sR, sR, sR_congr fun i hi => h i (by omega), h n (by omega)]
theorem sR_nil : ∀ n, sR n (fun _ => (0 : Int)) = 0
  | 0 => rfl
  | n + 1 => by rw [sR, sR_nil n]; grind
theorem sR_add (f g : Nat → Int) : ∀ n, sR n (fun i => f i + g i) = sR n f + sR n g
  | 0 => by simp only [sR]; grind
  | n + 1 => by rw [sR, sR, sR, sR_add f g n]; grind
theorem sR_mul (c : Int) (f : Nat → Int) : ∀ n, sR n (fun i => c * f i) = c * sR n f
  | 0 => by simp only [sR]; grind
  | n + 1 => by rw [sR, sR, sR_mul c f n]; grind
theorem sR_four (x1 x2 x3 x4 : Int) (f1 f2 f3 f4 : Nat → Int) (n : Nat) : sR n (fun h => x1 * f1 h + x2 * f2 h + (x3 * f3 h + x4 * f4 h)) = x1 * sR n f1 + x2 * sR n f2 + (x3 * sR n f3 + x4 * sR n f4) := by
  rw [sR_add (fun h => x1 * f1 h + x2 * f2 h) (fun h => x3 * f3 h + x4 * f4 h), sR_add (fun h => x1 * f1 h), sR_add (fun h => x3 * f3 h), sR_mul, sR_mul, sR_mul, sR_mul]
theorem sR_two (x1 x2 : Int) (f1 f2 : Nat → Int) (n : Nat) : sR n (fun h => x1 * f1 h + x2 * f2 h) = x1 * sR n f1 + x2 * sR n f2 := by
  rw [sR_add (fun h => x1 * f1 h), sR_mul, sR_mul]
/-- The trace of such a matrix, with rows that come to nothing. -/
theorem tr_idem (v : Nat) : ∀ (t : Nat) (P : Nat → Nat → Int) (c : Int), c ≠ 0 → t + 1 ≤ v →
    (∀ i j, i < v → j < v → sR v (fun h => P i h * P h j) = c * P i j) → (∀ i, i < v → sR v (P i) = 0) →
    (∀ i j, i < v → j < v → t + 1 ≤ j → P i j = 0) → ∃ f : Nat, f ≤ t ∧ sR v (fun i => P i i) = (nR f : Int) * c
  | 0, P, c, hc, ht, hP, hr, hz => by
    have key : ∀ i, i < v → ∀ n, 1 ≤ n → n ≤ v → sR n (P i) = P i 0 := by
      intro i hi n
      induction n with
      | zero => intro h; omega
      | succ n ih =>
        intro _ hn
        rw [sR]
        by_cases e : n = 0
        · subst e
          rw [sR]
          grind
        · rw [ih (by omega) (by omega), hz i n hi (by omega) (by omega)]
          grind
    have h0 : ∀ i j, i < v → j < v → P i j = 0 := fun i j hi hj => by
      by_cases e : j = 0
      · subst e
        rw [← key i hi v (by omega) (Nat.le_refl _)]
        exact hr i hi
      · exact hz i j hi hj (by omega)
    refine ⟨0, Nat.le_refl _, ?_⟩
    rw [sR_congr (g := fun _ => 0) fun i hi => h0 i i hi hi, sR_nil, nR]
    grind
  | t + 1, P, c, hc, ht, hP, hr, hz => by
    by_cases hcol : ∀ i, i < v → P i (t + 1) = 0
    · obtain ⟨f, hf, e⟩ := tr_idem v t P c hc (by omega) hP hr fun i j hi hj hj2 => by
        by_cases e : j = t + 1
        · subst e; exact hcol i hi
        · exact hz i j hi hj (by omega)
      exact ⟨f, by omega, e⟩
    · obtain ⟨i0, hk⟩ : ∃ i0, ¬ (i0 < v → P i0 (t + 1) = 0) := Classical.not_forall.1 hcol
      have hi0 : i0 < v := Classical.byContradiction fun h => hk fun k => absurd k h
      have hp : P i0 (t + 1) ≠ 0 := fun h => hk fun _ => h
      have hs : t + 1 < v := by omega
      obtain ⟨p, ep⟩ : ∃ p, P i0 (t + 1) = p := ⟨_, rfl⟩
      rw [ep] at hp
      have hpc : p * c ≠ 0 := fun h => by
        rcases Int.mul_eq_zero.1 h with h | h
        · exact hp h
        · exact hc h
      have hQ : ∀ a b, a < v → b < v → sR v (fun h => (p * P a h - P a (t + 1) * P i0 h) * (p * P h b - P h (t + 1) * P i0 b)) = p * c * (p * P a b - P a (t + 1) * P i0 b) := fun a b ha hb => by
        have e : sR v (fun h => (p * P a h - P a (t + 1) * P i0 h) * (p * P h b - P h (t + 1) * P i0 b)) = sR v (fun h => p * p * (P a h * P h b) + (- (p * P i0 b)) * (P a h * P h (t + 1)) + ((- (p * P a (t + 1))) * (P i0 h * P h b) + P a (t + 1) * P i0 b * (P i0 h * P h (t + 1)))) := sR_congr fun h _ => by grind
        rw [e, sR_four, hP a b ha hb, hP a (t + 1) ha hs, hP i0 b hi0 hb, hP i0 (t + 1) hi0 hs, ep]
        grind
      obtain ⟨f, hf, e⟩ := tr_idem v t (fun a b => p * P a b - P a (t + 1) * P i0 b) (p * c) hpc (by omega) hQ
        (fun a ha => by
          have e : sR v (fun b => p * P a b - P a (t + 1) * P i0 b) = sR v (fun b => p * P a b + (- P a (t + 1)) * P i0 b) := sR_congr fun b _ => by grind
          show sR v (fun b => p * P a b - P a (t + 1) * P i0 b) = 0
          rw [e, sR_two]
          have h1 : sR v (P a) = 0 := hr a ha
          have h2 : sR v (P i0) = 0 := hr i0 hi0
          rw [h1, h2]
          grind)
        (fun a b ha hb hb2 => by
          show p * P a b - P a (t + 1) * P i0 b = 0
          by_cases e : b = t + 1
          · subst e; rw [ep]; grind
          · rw [hz a b ha hb (by omega), hz i0 b hi0 hb (by omega)]; grind)
      have e2 : sR v (fun a => p * P a a - P a (t + 1) * P i0 a) = p * sR v (fun a => P a a) + (-1) * (c * p) := by
        have e : sR v (fun a => p * P a a - P a (t + 1) * P i0 a) = sR v (fun a => p * P a a + (-1) * (P i0 a * P a (t + 1))) := sR_congr fun b _ => by grind
        rw [e, sR_two, hP i0 (t + 1) hi0 hs, ep]
      have e3 : p * (sR v (fun a => P a a) - c - (nR f : Int) * c) = 0 := by
        have : sR v (fun a => p * P a a - P a (t + 1) * P i0 a) = (nR f : Int) * (p * c) := e
        rw [e2] at this
        grind
      refine ⟨f + 1, by omega, ?_⟩
      rcases Int.mul_eq_zero.1 e3 with h | h
      · exact absurd h hp
      · rw [nR]
        grind
end Go.Proofs.Ytlmjlffipinjiab
