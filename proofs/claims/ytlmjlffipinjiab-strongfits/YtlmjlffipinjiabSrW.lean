/- What Fits asks, as the program asks it: nothing of the program. -/
import Derived.Test.YtlmjlffipinjiabSrX
namespace Go.Proofs.Ytlmjlffipinjiab

/-- The places, and what is asked of them: by the root r (or 0) of the spread. -/
def ftB (v k l m : Int) (r : Int) : Bool :=
  decide (k * (k - l - 1) = (v - k - 1) * m) && ((decide (2 * k + (v - 1) * (l - m) = 0) && decide (v % 2 = 1)) || (decide (r ≠ 0) && (decide (Int.tmod (2 * k + (v - 1) * (l - m)) r = 0) && (decide (Int.tmod (v - 1 - Int.tdiv (2 * k + (v - 1) * (l - m)) r) 2 = 0) && decide (max (Int.tdiv (2 * k + (v - 1) * (l - m)) r) (- Int.tdiv (2 * k + (v - 1) * (l - m)) r) ≤ v - 1)))))
def RootIs (s : Int) (r : Nat) : Prop := (1 ≤ r ∧ (r * r : Int) = s) ∨ (r = 0 ∧ ∀ q : Nat, 1 ≤ q → (q * q : Int) ≠ s)
theorem sq_one {r q : Nat} (h : (r * r : Int) = q * q) : r = q := by
  have h : r * r = q * q := by exact_mod_cast h
  rcases Nat.lt_trichotomy r q with k | k | k
  · have := Nat.mul_lt_mul'' k k; omega
  · exact k
  · have := Nat.mul_lt_mul'' k k; omega
theorem ft_is {v k l m : Int} {r : Nat} (hv : 2 ≤ v) (hr : RootIs ((l - m) * (l - m) + 4 * (k - m)) r) :
    ftB v k l m r = true ↔ (k * (k - l - 1) = (v - k - 1) * m ∧ ((2 * k + (v - 1) * (l - m) = 0 ∧ v % 2 = 1) ∨ ∃ r f : Nat, 1 ≤ r ∧ (r * r : Int) = (l - m) * (l - m) + 4 * (k - m) ∧ (f : Int) < v ∧ (v - 1 - 2 * f) * r = 2 * k + (v - 1) * (l - m))) := by
  unfold ftB
  generalize 2 * k + (v - 1) * (l - m) = N at *
  generalize (l - m) * (l - m) + 4 * (k - m) = S at *
  simp only [Bool.and_eq_true, Bool.or_eq_true, decide_eq_true_eq]
  refine and_congr_right fun _ => or_congr_right ?_
  constructor
  · rintro ⟨h0, h1, h2, h3⟩
    rcases hr with ⟨hr1, hr2⟩ | ⟨rfl, _⟩
    · have e : N = Int.tdiv N r * r := by
        have := Int.tmod_add_mul_tdiv N r
        rw [h1, Int.zero_add, Int.mul_comm] at this
        exact this.symm
      generalize Int.tdiv N r = M at *
      have h4 : (v - 1 - M) % 2 = 0 := by have := Int.dvd_of_tmod_eq_zero h2; omega
      refine ⟨r, ((v - 1 - M) / 2).toNat, hr1, hr2, by omega, ?_⟩
      rw [e]
      congr 1
      omega
    · exact absurd rfl h0
  · rintro ⟨q, f, h1, h2, h3, h4⟩
    rcases hr with ⟨hr1, hr2⟩ | ⟨rfl, hr⟩
    · obtain rfl : r = q := sq_one (hr2.trans h2.symm)
      have hq : Int.tdiv N r = v - 1 - 2 * f := by rw [← h4]; exact Int.mul_tdiv_cancel _ (by omega)
      have hm : Int.tmod N r = 0 := by rw [← h4]; exact Int.mul_tmod_left _ _
      rw [hq, hm]
      refine ⟨by omega, rfl, Int.tmod_eq_zero_of_dvd (by omega), by omega⟩
    · exact absurd h2 (hr q h1)
end Go.Proofs.Ytlmjlffipinjiab
