/- Ways to choose as the landed package multiplies them; what falls, and the list of a rank. -/
import Derived.Test.YtmogmkdcplgfjaaSuC
namespace Go.Proofs.Ytmogmkdcplgfjaa

theorem wy_step (N i : Nat) : chs (N + i - 1) i * (N + i) = (i + 1) * chs (N + i) (i + 1) := by
  cases h : N + i with
  | zero =>
    have e1 : i = 0 := by omega
    subst e1
    rfl
  | succ x =>
    rw [show x + 1 - 1 = x by omega, chs_absorb x i, Nat.mul_comm]
theorem wy_div (N i : Nat) : chs (N + i - 1) i * (N + i) / (i + 1) = chs (N + i) (i + 1) := by
  rw [wy_step]
  exact Nat.mul_div_cancel_left _ (Nat.succ_pos i)
theorem wy_part (N : Nat) {i k : Nat} (h : i ≤ k) (h0 : 1 ≤ N) : chs (N + i - 1) i ≤ chs (N + k - 1) k := by
  obtain ⟨M, rfl⟩ : ∃ M, N = M + 1 := ⟨N - 1, by omega⟩
  have := chs_part (N := M) h
  rw [show M + 1 + i - 1 = M + i by omega, show M + 1 + k - 1 = M + k by omega]
  exact this
theorem wy_prod (N : Nat) {i k : Nat} (h : i < k) : chs (N + i - 1) i * (N + i) ≤ k * chs (N + k - 1) k := by
  rw [wy_step]
  rcases Nat.eq_zero_or_pos N with e | e
  · subst e
    rw [Nat.zero_add, chs_gt (Nat.lt_succ_self i), Nat.mul_zero]
    exact Nat.zero_le _
  · have h1 := wy_part N (show i + 1 ≤ k from h) e
    rw [show N + (i + 1) - 1 = N + i by omega] at h1
    exact Nat.mul_le_mul h h1
/-- The same by products, for the kernel. -/
def prT (N : Nat) : Nat → Nat
  | 0 => 1
  | i + 1 => prT N i * (N + i) / (i + 1)
theorem prT_is (N : Nat) : ∀ i, prT N i = chs (N + i - 1) i
  | 0 => by rw [chs_zero]; rfl
  | i + 1 => by
    show prT N i * (N + i) / (i + 1) = _
    rw [prT_is N i, wy_div]
    rfl
theorem chs61_all : (List.range 31).all (fun k => Nat.blt (k * prT (62 - k) k) 9223372036854775808) = true := by decide +kernel
theorem chs61 {k : Nat} (hk : k ≤ 30) : k * chs 61 k < 9223372036854775808 := by
  have h := List.all_eq_true.1 chs61_all k (List.mem_range.2 (by omega))
  have h := Nat.blt_eq ▸ h
  rw [prT_is, show 62 - k + k - 1 = 61 by omega] at h
  exact h
theorem chs60 {n k : Nat} (hk : k ≤ 30) (hn : n ≤ 61) : k * chs n k < 9223372036854775808 :=
  Nat.lt_of_le_of_lt (Nat.mul_le_mul_left k (chs_mono hn k)) (chs61 hk)
theorem cas_on {k m : Nat} (h : m ≠ 0) : casL (k + 1) m = topN (k + 1) m :: casL k (m - chs (topN (k + 1) m) (k + 1)) := by
  conv => lhs; unfold casL
  rw [if_neg h]
theorem cas_zero (k : Nat) : casL k 0 = [] := by
  cases k with
  | zero => rfl
  | succ k => unfold casL; rw [if_pos rfl]
theorem top_low {k m t : Nat} (hk : 1 ≤ k) (h : m < chs t k) : topN k m < t := by
  rcases Nat.lt_or_ge (topN k m) t with h1 | h1
  · exact h1
  · have := (top_iff (m := m) hk t).2 h1
    omega
theorem top_ways {k m : Nat} (hk : 1 ≤ k) : chs (topN k m) k ≤ m := (top_iff hk _).2 (Nat.le_refl _)
/-- What is left is less than the next adds. -/
theorem top_rest {k m : Nat} : m - chs (topN (k + 1) m) (k + 1) < chs (topN (k + 1) m) k := by
  have h1 := top_ways (k := k + 1) (m := m) (by omega)
  have h2 : ¬ chs (topN (k + 1) m + 1) (k + 1) ≤ m := fun h => by
    have := (top_iff (m := m) (show 1 ≤ k + 1 by omega) _).1 h
    omega
  have h3 : chs (topN (k + 1) m + 1) (k + 1) = chs (topN (k + 1) m) k + chs (topN (k + 1) m) (k + 1) := rfl
  omega
theorem top_ask {k m : Nat} (hk : 1 ≤ k) (hm : 0 < m) (i : Nat) : decide (m < chs (k + i + 1) k) = decide (topN k m - k ≤ i) := by
  have h := top_iff (m := m) hk (k + i + 1)
  have h2 := top_ge hk hm
  by_cases e : chs (k + i + 1) k ≤ m
  · have := h.1 e
    rw [decide_eq_false (by omega), decide_eq_false (by omega)]
  · have : ¬ k + i + 1 ≤ topN k m := fun g => e (h.2 g)
    rw [decide_eq_true (by omega), decide_eq_true (by omega)]
theorem un_cas : ∀ k r t, r < chs t k → unS k r t = List.range (k - (casL k r).length) ++ (casL k r).reverse
  | 0, _, _, _ => rfl
  | k + 1, r, t, h => by
    have hkt : k + 1 ≤ t := by
      rcases Nat.lt_or_ge t (k + 1) with h1 | h1
      · rw [chs_gt h1] at h; omega
      · exact h1
    unfold unS
    by_cases e : r = 0
    · subst e
      have hf : fdT (k + 1) 0 (t - 1) = k := fdT_is (by rw [chs_gt (Nat.lt_succ_self k)]; exact Nat.le_refl _) (by rw [chs_self]; exact Nat.one_pos) (by omega)
      rw [hf, Nat.zero_sub, un_cas k 0 k (by rw [chs_self]; exact Nat.one_pos), cas_zero, cas_zero]
      show List.range k ++ [] ++ [k] = List.range (k + 1) ++ []
      rw [List.append_nil, List.append_nil, List.range_succ]
    · have hf : fdT (k + 1) r (t - 1) = topN (k + 1) r := fdT_is (top_ways (by omega)) (by
        rcases Nat.lt_or_ge r (chs (topN (k + 1) r + 1) (k + 1)) with g | g
        · exact g
        · have := (top_iff (m := r) (show 1 ≤ k + 1 by omega) _).1 g
          omega) (by have := top_low (show 1 ≤ k + 1 by omega) h; omega)
      rw [hf, un_cas k _ (topN (k + 1) r) top_rest, cas_on e, List.length_cons, List.reverse_cons, Nat.add_sub_add_right, List.append_assoc]
end Go.Proofs.Ytmogmkdcplgfjaa
