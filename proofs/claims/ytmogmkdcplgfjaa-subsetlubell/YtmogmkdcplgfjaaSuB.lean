/- Ways to choose: what is known of them. -/
import Derived.Test.YtmogmkdcplgfjaaSuK
namespace Go.Proofs.Ytmogmkdcplgfjaa

theorem chs_gt : ∀ {n k : Nat}, n < k → chs n k = 0
  | n, 0, h => absurd h (Nat.not_lt_zero _)
  | 0, k + 1, _ => rfl
  | n + 1, k + 1, h => by
    show chs n k + chs n (k + 1) = 0
    rw [chs_gt (show n < k by omega), chs_gt (show n < k + 1 by omega)]
theorem chs_self : ∀ n, chs n n = 1
  | 0 => rfl
  | n + 1 => by
    show chs n n + chs n (n + 1) = 1
    rw [chs_self n, chs_gt (Nat.lt_succ_self n)]
theorem chs_symm : ∀ {n k : Nat}, k ≤ n → chs n k = chs n (n - k)
  | n, 0, _ => by rw [chs_zero, Nat.sub_zero, chs_self]
  | 0, k + 1, h => by omega
  | n + 1, k + 1, h => by
    by_cases e : k = n
    · subst e
      rw [chs_self, Nat.sub_self, chs_zero]
    · obtain ⟨j, hj⟩ : ∃ j, n + 1 - (k + 1) = j + 1 := ⟨n + 1 - (k + 1) - 1, by omega⟩
      rw [hj]
      show chs n k + chs n (k + 1) = chs n j + chs n (j + 1)
      rw [chs_symm (show k ≤ n by omega), chs_symm (show k + 1 ≤ n by omega), show n - k = j + 1 by omega, show n - (k + 1) = j by omega, Nat.add_comm]
theorem chs_two : ∀ n k, chs n k ≤ 2 ^ n
  | n, 0 => by rw [chs_zero]; exact Nat.two_pow_pos n
  | 0, k + 1 => Nat.zero_le _
  | n + 1, k + 1 => by
    have h1 := chs_two n k
    have h2 := chs_two n (k + 1)
    show chs n k + chs n (k + 1) ≤ _
    rw [Nat.pow_succ]
    omega
theorem chs_pos : ∀ {n k : Nat}, k ≤ n → 0 < chs n k
  | n, 0, _ => by rw [chs_zero]; exact Nat.one_pos
  | 0, k + 1, h => by omega
  | n + 1, k + 1, h => Nat.lt_of_lt_of_le (chs_pos (show k ≤ n by omega)) (Nat.le_add_right _ _)
theorem chs_lt {n k : Nat} (hk : 1 ≤ k) (h : k ≤ n + 1) : chs n k < chs (n + 1) k := by
  obtain ⟨j, rfl⟩ : ∃ j, k = j + 1 := ⟨k - 1, by omega⟩
  show chs n (j + 1) < chs n j + chs n (j + 1)
  have := chs_pos (n := n) (k := j) (by omega)
  omega
theorem chs_absorb : ∀ n k, (k + 1) * chs (n + 1) (k + 1) = (n + 1) * chs n k
  | 0, 0 => rfl
  | 0, k + 1 => by
    show (k + 2) * (chs 0 (k + 1) + chs 0 (k + 2)) = 1 * chs 0 (k + 1)
    rfl
  | n + 1, 0 => by
    have h : 1 * chs (n + 1) 1 = (n + 1) * chs n 0 := chs_absorb n 0
    show 1 * (chs (n + 1) 0 + chs (n + 1) 1) = (n + 2) * chs (n + 1) 0
    rw [chs_zero] at h ⊢
    omega
  | n + 1, k + 1 => by
    have h1 := chs_absorb n k
    have h2 := chs_absorb n (k + 1)
    show (k + 2) * (chs (n + 1) (k + 1) + chs (n + 1) (k + 2)) = (n + 2) * chs (n + 1) (k + 1)
    have e : chs (n + 1) (k + 1) = chs n k + chs n (k + 1) := rfl
    have e3 : (k + 2) * chs (n + 1) (k + 2) = (n + 1) * chs n (k + 1) := h2
    rw [Nat.mul_add, e3]
    have e4 : (k + 2) * chs (n + 1) (k + 1) = (k + 1) * chs (n + 1) (k + 1) + chs (n + 1) (k + 1) := by rw [← Nat.succ_mul]
    rw [e4, h1]
    have e5 : (n + 2) * chs (n + 1) (k + 1) = (n + 1) * chs (n + 1) (k + 1) + chs (n + 1) (k + 1) := by rw [← Nat.succ_mul]
    rw [e5]
    have e6 : (n + 1) * chs (n + 1) (k + 1) = (n + 1) * chs n k + (n + 1) * chs n (k + 1) := by rw [e, Nat.mul_add]
    omega
/-- The way by products. -/
theorem chs_step (N i : Nat) : chs (N + i) i * (N + (i + 1)) / (i + 1) = chs (N + (i + 1)) (i + 1) := by
  have h := chs_absorb (N + i) i
  have e : chs (N + i) i * (N + (i + 1)) = (i + 1) * chs (N + (i + 1)) (i + 1) := by
    rw [Nat.mul_comm]
    exact h.symm
  rw [e, Nat.mul_div_cancel_left _ (Nat.succ_pos i)]
/-- Things, one binary digit after another. -/
def thF : Nat → Nat → Nat
  | 0, _ => 0
  | f + 1, s => s % 2 + thF f (s / 2)
theorem thF_zero : ∀ f, thF f 0 = 0
  | 0 => rfl
  | f + 1 => by
    show 0 % 2 + thF f (0 / 2) = 0
    rw [Nat.zero_div, thF_zero f]
set_option maxRecDepth 100000 in
theorem th_all : (List.range 4096).all (fun s => thF 12 s == wgt 12 s) = true := by decide +kernel
theorem th_at {s : Nat} (h : s < 4096) : thF 12 s = wgt 12 s := eq_of_beq (List.all_eq_true.1 th_all s (List.mem_range.2 h))
theorem wgt_up {n s : Nat} (h : s < 2 ^ n) : ∀ d, wgt (n + d) s = wgt n s
  | 0 => rfl
  | d + 1 => by
    rw [← Nat.add_assoc, wgt_lt (n + d) s (Nat.lt_of_lt_of_le h (Nat.pow_le_pow_right (by decide) (by omega))), wgt_up h d]
theorem th_is {n s : Nat} (hn : n ≤ 12) (h : s < 2 ^ n) : thF 12 s = wgt n s := by
  rw [th_at (Nat.lt_of_lt_of_le h (Nat.pow_le_pow_right (by decide) hn : 2 ^ n ≤ 2 ^ 12)), show 12 = n + (12 - n) by omega, wgt_up h]
end Go.Proofs.Ytmogmkdcplgfjaa
