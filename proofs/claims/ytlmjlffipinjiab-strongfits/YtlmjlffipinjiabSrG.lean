/- Strong graphs: how often the eigenvalues come, over any domain that has the root. Nothing of the program. -/
import Derived.Test.YtlmjlffipinjiabSrT
namespace Go.Proofs.Ytlmjlffipinjiab

def idR (a b : Nat) : Int := if a = b then 1 else 0
theorem sR_id (F : Nat → Int) (a : Nat) : ∀ n, sR n (fun h => idR a h * F h) = if a < n then F a else 0
  | 0 => by simp [sR]
  | n + 1 => by
    rw [sR, sR_id F a n]
    unfold idR
    by_cases h : a = n
    · subst h
      rw [if_neg (by omega), if_pos rfl, if_pos (by omega)]
      grind
    · rw [if_neg h]
      by_cases h2 : a < n
      · rw [if_pos h2, if_pos (by omega)]; grind
      · rw [if_neg h2, if_neg (by omega)]; grind
theorem sR_idr (F : Nat → Int) (b : Nat) (n : Nat) (hb : b < n) : sR n (fun h => F h * idR h b) = F b := by
  have e : sR n (fun h => F h * idR h b) = sR n (fun h => idR b h * F h) := sR_congr fun h _ => by
    have : (idR h b : Int) = idR b h := by
      unfold idR
      by_cases k : h = b
      · rw [if_pos k, if_pos k.symm]
      · rw [if_neg k, if_neg fun e => k e.symm]
    rw [this]
    grind
  rw [e, sR_id, if_pos hb]
theorem sR_one : ∀ n, sR n (fun _ => (1 : Int)) = nR n
  | 0 => rfl
  | n + 1 => by rw [sR, sR_one n, nR]
theorem sR_three (x1 x2 x3 : Int) (f1 f2 f3 : Nat → Int) (n : Nat) : sR n (fun h => x1 * f1 h + x2 * f2 h + x3 * f3 h) = x1 * sR n f1 + x2 * sR n f2 + x3 * sR n f3 := by
  rw [sR_add (fun h => x1 * f1 h + x2 * f2 h), sR_two, sR_mul]
/-- What is said of a strong graph, as a matrix over Int. -/
structure SrR (n : Nat) (k l m : Int) (A : Nat → Nat → Int) : Prop where
  row : ∀ a, a < n → sR n (A a) = k
  col : ∀ b, b < n → sR n (fun h => A h b) = k
  diag : ∀ a, a < n → A a a = 0
  sq : ∀ a b, a < n → b < n → sR n (fun h => A a h * A h b) = k * idR a b + l * A a b + m * (1 - idR a b - A a b)
/-- Three kinds of matrices times three. -/
theorem SrR.mul {n : Nat} {k l m : Int} {A : Nat → Nat → Int} (S : SrR n k l m A) (x y z : Int) {a b : Nat} (ha : a < n) (hb : b < n) :
    sR n (fun h => (x * A a h + y * idR a h + z) * (x * A h b + y * idR h b + z)) = x * x * (k * idR a b + l * A a b + m * (1 - idR a b - A a b)) + 2 * x * y * A a b + 2 * x * z * k + y * y * idR a b + 2 * y * z + z * z * nR n := by
  have e : sR n (fun h => (x * A a h + y * idR a h + z) * (x * A h b + y * idR h b + z)) = sR n (fun h => x * (x * (A a h * A h b) + y * (A a h * idR h b) + z * A a h) + y * (idR a h * (x * A h b + y * idR h b + z)) + z * (x * A h b + y * (1 * idR h b) + z * 1)) := sR_congr fun h _ => by grind
  rw [e, sR_three, sR_three, sR_three, S.sq a b ha hb, sR_idr _ b n hb, sR_id _ a n, if_pos ha, S.col b hb, sR_idr _ b n hb, sR_one]
  rw [show sR n (fun h => A a h) = k from S.row a ha]
  grind
/-- How often: -/
theorem SrR.trace {n : Nat} {k l m d : Int} {A : Nat → Nat → Int} (S : SrR n k l m A) (hn : 1 ≤ n)
    (hc : k * (k - l - 1) = (nR n - k - 1) * m) (hd : d * d = (l - m) * (l - m) + 4 * (k - m)) (h0 : 2 * d * nR n ≠ 0) :
    ∃ f : Nat, f + 1 ≤ n ∧ (nR n - 1 - 2 * nR f) * d = 2 * k + (nR n - 1) * (l - m) := by
  obtain ⟨v, hv⟩ : ∃ v : Int, nR n = v := ⟨_, rfl⟩
  rw [hv] at hc h0 ⊢
  obtain ⟨f, hf, e⟩ := tr_idem n (n - 1) (fun a b => 2 * v * A a b + (d * v - (l - m) * v) * idR a b + (-(2 * k - l + m) - d)) (2 * d * v) h0 (by omega)
    (fun a b ha hb => by
      show sR n (fun h => (2 * v * A a h + (d * v - (l - m) * v) * idR a h + (-(2 * k - l + m) - d)) * (2 * v * A h b + (d * v - (l - m) * v) * idR h b + (-(2 * k - l + m) - d))) = 2 * d * v * (2 * v * A a b + (d * v - (l - m) * v) * idR a b + (-(2 * k - l + m) - d))
      rw [S.mul _ _ _ ha hb, hv]
      generalize A a b = x
      generalize (idR a b : Int) = y
      grind)
    (fun a ha => by
      show sR n (fun b => 2 * v * A a b + (d * v - (l - m) * v) * idR a b + (-(2 * k - l + m) - d)) = 0
      have e : sR n (fun b => 2 * v * A a b + (d * v - (l - m) * v) * idR a b + (-(2 * k - l + m) - d)) = sR n (fun b => 2 * v * A a b + (d * v - (l - m) * v) * (idR a b * 1) + (-(2 * k - l + m) - d) * 1) := sR_congr fun h _ => by grind
      rw [e, sR_three, show sR n (fun h => A a h) = k from S.row a ha, sR_id (fun _ => 1) a n, if_pos ha, sR_one, hv]
      grind)
    (fun a b ha hb h => by omega)
  have e2 : sR n (fun i => 2 * v * A i i + (d * v - (l - m) * v) * idR i i + (-(2 * k - l + m) - d)) = ((d * v - (l - m) * v) + (-(2 * k - l + m) - d)) * v := by
    have e : sR n (fun i => 2 * v * A i i + (d * v - (l - m) * v) * idR i i + (-(2 * k - l + m) - d)) = sR n (fun _ => ((d * v - (l - m) * v) + (-(2 * k - l + m) - d)) * 1) := sR_congr fun h hh => by
      rw [S.diag h hh]
      have : (idR h h : Int) = 1 := if_pos rfl
      rw [this]
      grind
    rw [e, sR_mul, sR_one, hv]
  have e3 : v * ((v - 1 - 2 * nR f) * d - (2 * k + (v - 1) * (l - m))) = 0 := by
    have := e2.symm.trans e
    grind
  refine ⟨f, by omega, ?_⟩
  rcases Int.mul_eq_zero.1 e3 with h | h
  · exact absurd (by rw [h]; grind) h0
  · grind
end Go.Proofs.Ytlmjlffipinjiab
