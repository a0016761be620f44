/- Ranks of lists that rise, and the list of a rank. -/
import Derived.Test.YtmogmkdcplgfjaaSuB
import Derived.Test.YtmogmkdcplgfjaaSuL
namespace Go.Proofs.Ytmogmkdcplgfjaa

def rkS (M : List Nat) (i : Nat) : Nat := sumN i fun j => chs (M.getD j 0) (j + 1)
def Rises (M : List Nat) : Prop := ∀ i, 1 ≤ i → i < M.length → M.getD (i - 1) 0 < M.getD i 0
theorem rkS_lt {M : List Nat} (h : Rises M) : ∀ i, i < M.length → rkS M (i + 1) < chs (M.getD i 0 + 1) (i + 1)
  | 0, h0 => by
    show 0 + chs (M.getD 0 0) 1 < _
    rw [Nat.zero_add]
    exact chs_lt (Nat.le_refl _) (by omega)
  | i + 1, hi => by
    have ih := rkS_lt h i (by omega)
    have h1 := h (i + 1) (by omega) hi
    rw [Nat.add_sub_cancel] at h1
    have h2 := chs_mono (show M.getD i 0 + 1 ≤ M.getD (i + 1) 0 by omega) (i + 1)
    show rkS M (i + 1) + chs (M.getD (i + 1) 0) (i + 2) < chs (M.getD (i + 1) 0) (i + 1) + chs (M.getD (i + 1) 0) (i + 2)
    omega
theorem rkS_small {M : List Nat} (h : Rises M) (h60 : ∀ i, i < M.length → M.getD i 0 ≤ 60) : ∀ i, i ≤ M.length → rkS M i ≤ 2 ^ 61
  | 0, _ => Nat.zero_le _
  | i + 1, hi => by
    have h1 := rkS_lt h i (by omega)
    have h2 := chs_two (M.getD i 0 + 1) (i + 1)
    have h3 : 2 ^ (M.getD i 0 + 1) ≤ 2 ^ 61 := Nat.pow_le_pow_right (by decide) (by have := h60 i (by omega); omega)
    omega
/-- The greatest number, up to there, of which the ways are no more than that. -/
def fdT (i r : Nat) : Nat → Nat
  | 0 => 0
  | a + 1 => if chs (a + 1) i ≤ r then a + 1 else fdT i r a
theorem fdT_yes {i r a : Nat} (h : chs a i ≤ r) : fdT i r a = a := by
  cases a with
  | zero => rfl
  | succ a => unfold fdT; rw [if_pos h]
theorem fdT_no {i r a : Nat} (h : ¬ chs (a + 1) i ≤ r) : fdT i r (a + 1) = fdT i r a := by
  conv => lhs; unfold fdT
  rw [if_neg h]
theorem fdT_is {i r a : Nat} (h1 : chs a i ≤ r) (h2 : r < chs (a + 1) i) : ∀ {t}, a ≤ t → fdT i r t = a
  | 0, h => by
    have : a = 0 := by omega
    rw [this]; rfl
  | t + 1, h => by
    by_cases e : a = t + 1
    · rw [← e]; exact fdT_yes h1
    · rw [fdT_no (by have := chs_mono (show a + 1 ≤ t + 1 by omega) i; omega)]
      exact fdT_is h1 h2 (by omega)
theorem fdT_le (i r : Nat) : ∀ t, fdT i r t ≤ t
  | 0 => Nat.le_refl _
  | t + 1 => by
    unfold fdT
    split
    · exact Nat.le_refl _
    · exact Nat.le_succ_of_le (fdT_le i r t)
theorem fdT_ok {i r : Nat} (hi : 1 ≤ i) : ∀ t, chs (fdT i r t) i ≤ r
  | 0 => by
    obtain ⟨j, rfl⟩ : ∃ j, i = j + 1 := ⟨i - 1, by omega⟩
    exact Nat.zero_le _
  | t + 1 => by
    unfold fdT
    split
    · assumption
    · exact fdT_ok hi t
theorem fdT_ge {i r : Nat} (hi : 1 ≤ i) : ∀ t, i ≤ t + 1 → i ≤ fdT i r t + 1
  | 0, h => by show i ≤ 0 + 1; exact h
  | t + 1, h => by
    unfold fdT
    split
    · exact h
    · rename_i hn
      refine fdT_ge hi t ?_
      rcases Nat.lt_or_ge (t + 1) i with h1 | h1
      · rw [chs_gt h1] at hn
        exact absurd (Nat.zero_le _) hn
      · exact h1
/-- The list of a rank, of numbers below a bound: from the greatest down. -/
def unS : Nat → Nat → Nat → List Nat
  | 0, _, _ => []
  | i + 1, r, t => unS i (r - chs (fdT (i + 1) r (t - 1)) (i + 1)) (fdT (i + 1) r (t - 1)) ++ [fdT (i + 1) r (t - 1)]
theorem unS_len : ∀ i r t, (unS i r t).length = i
  | 0, _, _ => rfl
  | i + 1, r, t => by
    unfold unS
    rw [List.length_append, unS_len i]; rfl
theorem unS_back {M : List Nat} (h : Rises M) : ∀ i, i ≤ M.length → ∀ t, (∀ j, j < i → M.getD j 0 < t) → unS i (rkS M i) t = M.take i
  | 0, _, _, _ => by simp [unS]
  | i + 1, hi, t, ht => by
    have h1 := rkS_lt h i (by omega)
    have h2 : rkS M (i + 1) = rkS M i + chs (M.getD i 0) (i + 1) := rfl
    have h3 := ht i (by omega)
    have h4 : fdT (i + 1) (rkS M (i + 1)) (t - 1) = M.getD i 0 := fdT_is (by omega) h1 (by omega)
    have h5 := unS_back h i (by omega) (M.getD i 0) fun j hj => by
      have : ∀ d, j + d < i → M.getD j 0 ≤ M.getD (j + d) 0 := fun d => by
        induction d with
        | zero => intro _; exact Nat.le_refl _
        | succ d ih =>
          intro hd
          have a := ih (by omega)
          have b := h (j + (d + 1)) (by omega) (by omega)
          rw [show j + (d + 1) - 1 = j + d by omega] at b
          omega
      have a := this (i - 1 - j) (by omega)
      rw [show j + (i - 1 - j) = i - 1 by omega] at a
      have b := h i (by omega) (by omega)
      omega
    unfold unS
    rw [h4, h2, Nat.add_sub_cancel, h5, List.take_add_one, List.getElem?_eq_getElem (show i < M.length by omega), List.getD_eq_getElem?_getD, List.getElem?_eq_getElem (show i < M.length by omega)]
    rfl
end Go.Proofs.Ytmogmkdcplgfjaa
