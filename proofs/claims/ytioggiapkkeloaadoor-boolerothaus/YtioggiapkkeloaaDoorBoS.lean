/- Sizes of a spectrum's numbers, their least and greatest; how immune, by the places; nothing of the program. -/
import Derived.Test.YtioggiapkkeloaaDoorCB5
namespace Go.Proofs.YtioggiapkkeloaaDoor

def lsT (N : Nat) (S : Nat → Int) : Nat → Nat
  | 0 => N
  | k + 1 => min (lsT N S k) (S k).natAbs
def grT (S : Nat → Int) : Nat → Nat
  | 0 => 0
  | k + 1 => max (grT S k) (S k).natAbs
theorem lsT_le (N : Nat) (S : Nat → Int) : ∀ k, lsT N S k ≤ N
  | 0 => Nat.le_refl _
  | k + 1 => Nat.le_trans (Nat.min_le_left _ _) (lsT_le N S k)
theorem lsT_at (N : Nat) (S : Nat → Int) : ∀ {k a : Nat}, a < k → lsT N S k ≤ (S a).natAbs
  | k + 1, a, h => by
    rw [lsT]
    by_cases e : a = k
    · subst e; exact Nat.min_le_right _ _
    · exact Nat.le_trans (Nat.min_le_left _ _) (lsT_at N S (by omega))
theorem grT_at (S : Nat → Int) : ∀ {k a : Nat}, a < k → (S a).natAbs ≤ grT S k
  | k + 1, a, h => by
    rw [grT]
    by_cases e : a = k
    · subst e; exact Nat.le_max_right _ _
    · exact Nat.le_trans (grT_at S (by omega)) (Nat.le_max_left _ _)
theorem lsT_is (N : Nat) (S : Nat → Int) : ∀ k, lsT N S k = N ∨ ∃ a, a < k ∧ (S a).natAbs = lsT N S k
  | 0 => .inl rfl
  | k + 1 => by
    rw [lsT]
    rcases Nat.le_total (lsT N S k) (S k).natAbs with h | h
    · rw [Nat.min_eq_left h]
      rcases lsT_is N S k with e | ⟨a, ha, e⟩
      · exact .inl e
      · exact .inr ⟨a, by omega, e⟩
    · rw [Nat.min_eq_right h]
      exact .inr ⟨k, by omega, rfl⟩
theorem grT_is (S : Nat → Int) : ∀ k, grT S k = 0 ∨ ∃ a, a < k ∧ (S a).natAbs = grT S k
  | 0 => .inl rfl
  | k + 1 => by
    rw [grT]
    rcases Nat.le_total (grT S k) (S k).natAbs with h | h
    · rw [Nat.max_eq_right h]
      exact .inr ⟨k, by omega, rfl⟩
    · rw [Nat.max_eq_left h]
      rcases grT_is S k with e | ⟨a, ha, e⟩
      · exact .inl e
      · exact .inr ⟨a, by omega, e⟩
theorem grT_le {N : Nat} {S : Nat → Int} (h : ∀ a, a < N → (S a).natAbs ≤ N) : ∀ {k : Nat}, k ≤ N → grT S k ≤ N
  | 0, _ => Nat.zero_le _
  | k + 1, hk => by
    rw [grT]
    exact Nat.max_le.2 ⟨grT_le h (by omega), h k (by omega)⟩
/-- All sizes are alike just if the least is the greatest. -/
theorem flat_sizes {N : Nat} {S : Nat → Int} (hN : 0 < N) (h : ∀ a, a < N → (S a).natAbs ≤ N) : ((lsT N S N : Int) == (grT S N : Int)) = flB N S := by
  rw [Bool.eq_iff_iff, flB_iff]
  constructor
  · intro e a ha
    have e : (lsT N S N : Int) = grT S N := by simpa using e
    have e : lsT N S N = grT S N := by omega
    have h1 := lsT_at N S ha
    have h2 := grT_at S ha
    have h3 := lsT_at N S hN
    have h4 := grT_at S hN
    omega
  · intro hf
    have e1 : ∀ a, a < N → (S a).natAbs = (S 0).natAbs := fun a ha => by rcases hf a ha with k | k <;> rw [k]; simp
    have e2 : lsT N S N = (S 0).natAbs := by
      have := lsT_at N S hN
      rcases lsT_is N S N with k | ⟨a, ha, k⟩
      · have := h 0 hN
        omega
      · rw [← k, e1 a ha]
    have e3 : grT S N = (S 0).natAbs := by
      have := grT_at S hN
      rcases grT_is S N with k | ⟨a, ha, k⟩
      · omega
      · rw [← k, e1 a ha]
    rw [e2, e3]; simp
theorem sg2_two (k : Nat) (t : Int) (h : t = 0 ∨ t = 1) : (sg2 k * (1 - 2 * t) - 1) % 2 = 0 := by
  rcases sg2_sg k with e | e <;> rcases h with rfl | rfl <;> rw [e] <;> rfl
/-- The numbers of a spectrum are even, if there is more than one. -/
theorem spF_even {n a : Nat} {l : List Int} (G : GoodT n l) (ha : a < 2 ^ n) : (spF n l a - (2 ^ n : Nat)) % 2 = 0 := by
  rw [spF_sum l G.le ha]
  have key : ∀ N : Nat, N ≤ 2 ^ n → ((sm N fun x => sg2 (wt (a &&& x)) * tg (tf l) x) - (N : Int)) % 2 = 0 := by
    intro N
    induction N with
    | zero => simp [sm]
    | succ N ih =>
      intro hN
      have h1 := ih (by omega)
      have h2 : (sg2 (wt (a &&& N)) * tg (tf l) N - 1) % 2 = 0 := sg2_two _ _ (G.bit N (by omega))
      rw [sm]
      push_cast
      omega
  exact key _ (Nat.le_refl _)
theorem sizes_le {n a : Nat} {l : List Int} (G : GoodT n l) (ha : a < 2 ^ n) : (spF n l a).natAbs ≤ 2 ^ n := by
  have := spF_abs G ha
  have e3 : ((2 ^ n : Nat) : Int) = 2 ^ n := by simp
  omega
/-- How far, by the greatest size. -/
theorem far_is {n : Nat} {l : List Int} (G : GoodT n l) : FarIs (2 ^ n) (spF n l) ((2 ^ n - grT (spF n l) (2 ^ n)) / 2) ∧ grT (spF n l) (2 ^ n) ≤ 2 ^ n := by
  have hN := Nat.two_pow_pos n
  have hg := grT_le (N := 2 ^ n) (S := spF n l) (fun a ha => sizes_le G ha) (Nat.le_refl _)
  have hev : ∃ a, a < 2 ^ n ∧ (spF n l a).natAbs = grT (spF n l) (2 ^ n) := by
    rcases grT_is (spF n l) (2 ^ n) with e | h
    · have := grT_at (spF n l) hN
      exact ⟨0, hN, by omega⟩
    · exact h
  obtain ⟨a, ha, e⟩ := hev
  have h2 := spF_even G ha
  generalize hf : (2 ^ n - grT (spF n l) (2 ^ n)) / 2 = f
  have h3 : 2 * f = 2 ^ n - grT (spF n l) (2 ^ n) := by omega
  refine ⟨⟨fun b hb => ?_, a, ha, ?_⟩, hg⟩
  · have := grT_at (spF n l) hb
    omega
  · omega
/-- How immune, by the numbers below k. -/
def imT (n : Nat) (S : Nat → Int) : Nat → Nat
  | 0 => n
  | k + 1 => if 0 < k ∧ S k ≠ 0 then min (imT n S k) (wt k - 1) else imT n S k
theorem imT_le (n : Nat) (S : Nat → Int) : ∀ k, imT n S k ≤ n
  | 0 => Nat.le_refl _
  | k + 1 => by
    rw [imT]
    have := imT_le n S k
    split
    · exact Nat.le_trans (Nat.min_le_left _ _) this
    · exact this
theorem imT_at (n : Nat) (S : Nat → Int) : ∀ {k a : Nat}, a < k → 0 < a → S a ≠ 0 → imT n S k ≤ wt a - 1
  | k + 1, a, h, h0, hs => by
    rw [imT]
    by_cases e : a = k
    · subst e
      rw [if_pos ⟨h0, hs⟩]
      exact Nat.min_le_right _ _
    · have := imT_at n S (k := k) (a := a) (by omega) h0 hs
      split
      · exact Nat.le_trans (Nat.min_le_left _ _) this
      · exact this
theorem imT_is (n : Nat) (S : Nat → Int) : ∀ k, imT n S k = n ∨ ∃ a, a < k ∧ 0 < a ∧ S a ≠ 0 ∧ imT n S k = wt a - 1
  | 0 => .inl rfl
  | k + 1 => by
    rw [imT]
    split
    · rename_i c
      rcases Nat.le_total (imT n S k) (wt k - 1) with h | h
      · rw [Nat.min_eq_left h]
        rcases imT_is n S k with e | ⟨a, ha, h0, hs, e⟩
        · exact .inl e
        · exact .inr ⟨a, by omega, h0, hs, e⟩
      · rw [Nat.min_eq_right h]
        exact .inr ⟨k, by omega, c.1, c.2, rfl⟩
    · rcases imT_is n S k with e | ⟨a, ha, h0, hs, e⟩
      · exact .inl e
      · exact .inr ⟨a, by omega, h0, hs, e⟩
theorem wt_pos {n a : Nat} (hn : n ≤ 8) (ha : a < 2 ^ n) (h0 : 0 < a) : 1 ≤ wt a := by
  rw [wt_is hn ha]
  exact wtk_pos ha (by omega)
theorem imT_imN {n : Nat} (S : Nat → Int) (hn : n ≤ 8) : imT n S (2 ^ n) = imN n S n := by
  apply Nat.le_antisymm
  · refine imN_most (imB_iff.2 fun a ha h0 hw => ?_) (imT_le n S _)
    apply Classical.byContradiction
    intro c
    have := imT_at n S ha (by omega) c
    have := wt_pos hn ha (by omega)
    omega
  · have h1 := imN_le n S n
    rcases imT_is n S (2 ^ n) with e | ⟨a, ha, h0, hs, e⟩
    · omega
    · apply Classical.byContradiction
      intro c
      exact hs (imB_iff.1 (imN_is S hn n) a ha (by omega) (by omega))
end Go.Proofs.YtioggiapkkeloaaDoor
