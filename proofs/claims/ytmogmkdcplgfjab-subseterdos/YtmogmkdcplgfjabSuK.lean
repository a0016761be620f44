/- Sets as numbers: how many there are, what they become when one thing is left out. -/
import Derived.RowKit
namespace Go.Proofs.Ytmogmkdcplgfjab

/-- How many of the sets of n things are in it. -/
def cnt : Nat → (Nat → Bool) → Nat
  | 0, F => (F 0).toNat
  | n + 1, F => cnt n F + cnt n (fun s => F (s + 2 ^ n))
/-- What a family becomes when one thing is left out. -/
def shw : Nat → (Nat → Bool) → Nat → Bool
  | 0, _, _ => false
  | n + 1, F, s => if s < 2 ^ n then shw n F s || F (s + 2 ^ n) else shw n (fun t => F (t + 2 ^ n)) (s - 2 ^ n)
/-- How many things a set of n has. -/
def wgt : Nat → Nat → Nat
  | 0, _ => 0
  | n + 1, s => if s < 2 ^ n then wgt n s else wgt n (s - 2 ^ n) + 1
theorem cnt_congr : ∀ (n : Nat) {F G : Nat → Bool}, (∀ s, s < 2 ^ n → F s = G s) → cnt n F = cnt n G
  | 0, F, G, h => by unfold cnt; rw [h 0 (by decide)]
  | n + 1, F, G, h => by
    unfold cnt
    rw [cnt_congr n fun s hs => h s (by rw [Nat.pow_succ]; omega), cnt_congr n fun s hs => h (s + 2 ^ n) (by rw [Nat.pow_succ]; omega)]
theorem cnt_mono : ∀ (n : Nat) {F G : Nat → Bool}, (∀ s, s < 2 ^ n → F s = true → G s = true) → cnt n F ≤ cnt n G
  | 0, F, G, h => by
    unfold cnt
    cases e : F 0 with
    | false => exact Nat.zero_le _
    | true => rw [h 0 (by decide) e]; exact Nat.le_refl _
  | n + 1, F, G, h => by
    unfold cnt
    exact Nat.add_le_add (cnt_mono n fun s hs => h s (by rw [Nat.pow_succ]; omega)) (cnt_mono n fun s hs => h (s + 2 ^ n) (by rw [Nat.pow_succ]; omega))
theorem cnt_none : ∀ (n : Nat) {F : Nat → Bool}, (∀ s, s < 2 ^ n → F s = false) → cnt n F = 0
  | 0, F, h => by unfold cnt; rw [h 0 (by decide)]; rfl
  | n + 1, F, h => by
    unfold cnt
    rw [cnt_none n fun s hs => h s (by rw [Nat.pow_succ]; omega), cnt_none n fun s hs => h (s + 2 ^ n) (by rw [Nat.pow_succ]; omega)]
/-- Two families that have nothing in common. -/
theorem cnt_apart : ∀ (n : Nat) {F G : Nat → Bool}, (∀ s, s < 2 ^ n → ¬ (F s = true ∧ G s = true)) → cnt n F + cnt n G = cnt n (fun s => F s || G s)
  | 0, F, G, h => by
    unfold cnt
    have := h 0 (by decide)
    cases e : F 0 <;> cases f : G 0 <;> simp_all
  | n + 1, F, G, h => by
    unfold cnt
    rw [← cnt_apart n fun s hs => h s (by rw [Nat.pow_succ]; omega), ← cnt_apart n fun s hs => h (s + 2 ^ n) (by rw [Nat.pow_succ]; omega)]
    omega
/-- Ways to choose. -/
def chs : Nat → Nat → Nat
  | _, 0 => 1
  | 0, _ + 1 => 0
  | n + 1, k + 1 => chs n k + chs n (k + 1)
theorem chs_zero (n : Nat) : chs n 0 = 1 := by cases n <;> rfl
theorem cnt_wgt : ∀ n k, cnt n (fun s => wgt n s == k) = chs n k
  | 0, 0 => rfl
  | 0, k + 1 => by
    show ((0 : Nat) == k + 1).toNat = 0
    rfl
  | n + 1, k => by
    unfold cnt
    have e1 : cnt n (fun s => wgt (n + 1) s == k) = cnt n (fun s => wgt n s == k) := cnt_congr n fun s hs => by
      show ((if s < 2 ^ n then wgt n s else wgt n (s - 2 ^ n) + 1) == k) = _
      rw [if_pos hs]
    have e2 : cnt n (fun s => wgt (n + 1) (s + 2 ^ n) == k) = cnt n (fun s => wgt n s + 1 == k) := cnt_congr n fun s hs => by
      show ((if s + 2 ^ n < 2 ^ n then wgt n (s + 2 ^ n) else wgt n (s + 2 ^ n - 2 ^ n) + 1) == k) = _
      rw [if_neg (by omega), Nat.add_sub_cancel]
    rw [e1, e2, cnt_wgt n k]
    cases k with
    | zero => rw [cnt_none n fun s _ => by simp]; rw [chs_zero, chs_zero]
    | succ k =>
      rw [cnt_congr n (G := fun s => wgt n s == k) fun s _ => by simp, cnt_wgt n k]
      show _ = chs n k + chs n (k + 1)
      omega
theorem cnt_le {n k : Nat} {F : Nat → Bool} (h : ∀ s, s < 2 ^ n → F s = true → wgt n s = k) : cnt n F ≤ chs n k := by
  rw [← cnt_wgt]
  exact cnt_mono n fun s hs hF => by rw [h s hs hF]; simp
theorem chs_up : ∀ n k, chs n k ≤ chs (n + 1) k
  | n, 0 => by rw [chs_zero, chs_zero]; exact Nat.le_refl _
  | n, k + 1 => Nat.le_add_left _ _
theorem chs_mono {n m : Nat} (h : n ≤ m) (k : Nat) : chs n k ≤ chs m k := by
  induction h with
  | refl => exact Nat.le_refl _
  | step _ ih => exact Nat.le_trans ih (chs_up _ k)
/-- The shadow of what is parted by its last thing. -/
theorem shw_part (n : Nat) (F : Nat → Bool) : cnt (n + 1) (shw (n + 1) F) = cnt n (fun s => shw n F s || F (s + 2 ^ n)) + cnt n (shw n (fun t => F (t + 2 ^ n))) := by
  conv => lhs; unfold cnt
  congr 1
  · exact cnt_congr n fun s hs => by
      show (if s < 2 ^ n then _ else _) = _
      rw [if_pos hs]
  · exact cnt_congr n fun s hs => by
      show (if s + 2 ^ n < 2 ^ n then _ else shw n (fun t => F (t + 2 ^ n)) (s + 2 ^ n - 2 ^ n)) = _
      rw [if_neg (by omega), Nat.add_sub_cancel]
/-- What is left out stands in the shadow, and no more. -/
theorem shw_of : ∀ (n : Nat) {F : Nat → Bool} {s : Nat}, s < 2 ^ n → shw n F s = true → ∃ t, t < n ∧ s.testBit t = false ∧ s + 2 ^ t < 2 ^ n ∧ F (s + 2 ^ t) = true
  | 0, F, s, _, h => by cases h
  | n + 1, F, s, hs, h => by
    unfold shw at h
    by_cases hlt : s < 2 ^ n
    · rw [if_pos hlt, Bool.or_eq_true] at h
      rcases h with h | h
      · obtain ⟨t, h1, h2, h3, h4⟩ := shw_of n hlt h
        exact ⟨t, by omega, h2, by rw [Nat.pow_succ]; omega, h4⟩
      · exact ⟨n, by omega, Nat.testBit_lt_two_pow hlt, by rw [Nat.pow_succ]; omega, h⟩
    · rw [if_neg hlt] at h
      rw [Nat.pow_succ] at hs
      obtain ⟨t, h1, h2, h3, h4⟩ := shw_of n (by omega) h
      have e : s = s - 2 ^ n + 2 ^ n := by omega
      refine ⟨t, by omega, ?_, by rw [Nat.pow_succ]; omega, ?_⟩
      · rw [e, Nat.add_comm, Nat.testBit_two_pow_add_gt h1]; exact h2
      · rw [show s + 2 ^ t = s - 2 ^ n + 2 ^ t + 2 ^ n by omega]; exact h4
theorem wgt_lt : ∀ n s, s < 2 ^ n → wgt (n + 1) s = wgt n s := fun n s h => by
  show (if s < 2 ^ n then wgt n s else _) = _
  rw [if_pos h]
theorem wgt_ge (n s : Nat) : wgt (n + 1) (s + 2 ^ n) = wgt n s + 1 := by
  show (if s + 2 ^ n < 2 ^ n then _ else wgt n (s + 2 ^ n - 2 ^ n) + 1) = _
  rw [if_neg (by omega), Nat.add_sub_cancel]
/-- The shadow of sets of k + 1 things are sets of k. -/
theorem shw_wgt : ∀ (n : Nat) {F : Nat → Bool} {k : Nat}, (∀ s, s < 2 ^ n → F s = true → wgt n s = k + 1) → ∀ s, s < 2 ^ n → shw n F s = true → wgt n s = k
  | 0, F, k, _, s, _, h => by cases h
  | n + 1, F, k, hF, s, hs, h => by
    rw [Nat.pow_succ] at hs
    unfold shw at h
    by_cases hlt : s < 2 ^ n
    · rw [if_pos hlt, Bool.or_eq_true] at h
      rw [wgt_lt n s hlt]
      rcases h with h | h
      · exact shw_wgt n (fun t ht hFt => by rw [← wgt_lt n t ht]; exact hF t (by rw [Nat.pow_succ]; omega) hFt) s hlt h
      · have := hF (s + 2 ^ n) (by rw [Nat.pow_succ]; omega) h
        rw [wgt_ge] at this
        omega
    · rw [if_neg hlt] at h
      have e : s = s - 2 ^ n + 2 ^ n := by omega
      rw [e, wgt_ge]
      cases k with
      | zero =>
        exfalso
        have h0 : ∀ t, t < 2 ^ n → F (t + 2 ^ n) = true → wgt n t = 0 := fun t ht hFt => by
          have := hF (t + 2 ^ n) (by rw [Nat.pow_succ]; omega) hFt
          rw [wgt_ge] at this
          omega
        obtain ⟨t, h1, h2, h3, h4⟩ := shw_of n (by omega) h
        have := h0 _ h3 h4
        exact absurd this (wgt_pos h1 h2 h3)
      | succ k =>
        have := shw_wgt n (F := fun t => F (t + 2 ^ n)) (k := k) (fun t ht hFt => by
          have := hF (t + 2 ^ n) (by rw [Nat.pow_succ]; omega) hFt
          rw [wgt_ge] at this
          omega) (s - 2 ^ n) (by omega) h
        omega
where
  wgt_pos {n s t : Nat} (_ : t < n) (_ : s.testBit t = false) (h : s + 2 ^ t < 2 ^ n) : ¬ wgt n (s + 2 ^ t) = 0 := fun h0 => by
    have := wgt_zero n _ h h0
    have := Nat.two_pow_pos t
    omega
  wgt_zero : ∀ n s, s < 2 ^ n → wgt n s = 0 → s = 0
    | 0, s, h, _ => by
      have : s < 1 := h
      omega
    | n + 1, s, h, h0 => by
      rw [Nat.pow_succ] at h
      unfold wgt at h0
      by_cases hlt : s < 2 ^ n
      · rw [if_pos hlt] at h0
        exact wgt_zero n s hlt h0
      · rw [if_neg hlt] at h0
        omega
end Go.Proofs.Ytmogmkdcplgfjab
