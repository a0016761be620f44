/- Cascades: the greatest number each time; what the least shadow is. -/
import Derived.Test.YtmogmkdcplgfjaaSuU
import Derived.Test.YtmogmkdcplgfjaaSuE
namespace Go.Proofs.Ytmogmkdcplgfjaa

theorem chs_up2 (N : Nat) : ∀ i, chs (N + i) i ≤ chs (N + (i + 1)) (i + 1) := fun i => by
  show chs (N + i) i ≤ chs (N + i) i + chs (N + i) (i + 1)
  exact Nat.le_add_right _ _
theorem chs_part {N i k : Nat} (h : i ≤ k) : chs (N + i) i ≤ chs (N + k) k := by
  induction h with
  | refl => exact Nat.le_refl _
  | step _ ih => exact Nat.le_trans ih (chs_up2 N _)
/-- One step of the products, divided as they grow. -/
theorem gcd_step (N i : Nat) : chs (N + i) i / Nat.gcd (chs (N + i) i) (i + 1) * ((N + (i + 1)) / ((i + 1) / Nat.gcd (chs (N + i) i) (i + 1))) = chs (N + (i + 1)) (i + 1) := by
  have h := chs_absorb (N + i) i
  generalize chs (N + i) i = b at h ⊢
  have h : (i + 1) * chs (N + (i + 1)) (i + 1) = (N + (i + 1)) * b := h
  generalize chs (N + (i + 1)) (i + 1) = c at h ⊢
  generalize N + (i + 1) = x at h ⊢
  have hg : 0 < Nat.gcd b (i + 1) := Nat.gcd_pos_of_pos_right _ (Nat.succ_pos i)
  have hco := Nat.coprime_div_gcd_div_gcd hg
  obtain ⟨p, hp⟩ := Nat.gcd_dvd_left b (i + 1)
  obtain ⟨q, hq⟩ := Nat.gcd_dvd_right b (i + 1)
  generalize Nat.gcd b (i + 1) = g at hg hco hp hq ⊢
  have e1 : b / g = p := by rw [hp]; exact Nat.mul_div_cancel_left _ hg
  have e2 : (i + 1) / g = q := by rw [hq]; exact Nat.mul_div_cancel_left _ hg
  rw [e1, e2] at hco ⊢
  have h2 : q * c = x * p := by
    refine Nat.eq_of_mul_eq_mul_left hg ?_
    rw [← Nat.mul_assoc, ← hq, h, hp]
    rw [← Nat.mul_assoc, Nat.mul_comm x g, Nat.mul_assoc]
  have hq0 : 0 < q := by
    rcases Nat.eq_zero_or_pos q with e | e
    · rw [e] at hq; omega
    · exact e
  have hd : q ∣ x := by
    refine Nat.Coprime.dvd_of_dvd_mul_right (Nat.Coprime.symm hco) ⟨c, ?_⟩
    exact h2.symm
  obtain ⟨y, rfl⟩ := hd
  rw [Nat.mul_div_cancel_left _ hq0]
  have : q * c = q * (p * y) := by rw [h2, Nat.mul_assoc, Nat.mul_comm y p]
  exact (Nat.eq_of_mul_eq_mul_left hq0 this).symm
theorem chs_prev : ∀ n k, k + 1 ≤ n → chs n k ≤ (k + 1) * chs n (k + 1)
  | 0, k, h => by omega
  | n + 1, 0, _ => by
    have := chs_pos (n := n + 1) (k := 1) (by omega)
    rw [chs_zero, Nat.zero_add, Nat.one_mul]; exact this
  | n + 1, j + 1, h => by
    have h1 := chs_prev n j (by omega)
    show chs n j + chs n (j + 1) ≤ (j + 2) * (chs n (j + 1) + chs n (j + 2))
    by_cases e : j + 2 ≤ n
    · have h2 := chs_prev n (j + 1) e
      rw [Nat.mul_add]
      have : (j + 2) * chs n (j + 1) = (j + 1) * chs n (j + 1) + chs n (j + 1) := by rw [← Nat.succ_mul]
      have e2 : (j + 1 + 1) * chs n (j + 1 + 1) = (j + 2) * chs n (j + 2) := rfl
      omega
    · have e3 : chs n (j + 1) = 1 := by rw [show j + 1 = n by omega, chs_self]
      rw [e3] at h1 ⊢
      have e4 : chs n (j + 2) = 0 := chs_gt (by omega)
      rw [e4]
      omega
theorem chs_big {k : Nat} (hk : 1 ≤ k) : ∀ m, m < chs (k + m) k
  | 0 => by rw [Nat.add_zero, chs_self]; exact Nat.one_pos
  | m + 1 => by
    have h1 := chs_big hk m
    have h2 := chs_lt (n := k + m) hk (by omega)
    have h2 : chs (k + m) k < chs (k + (m + 1)) k := h2
    omega
/-- The greatest number whose ways are no more than m. -/
def topN (k m : Nat) : Nat := fdT k m (k + m)
theorem top_iff {k m : Nat} (hk : 1 ≤ k) (x : Nat) : chs x k ≤ m ↔ x ≤ topN k m := by
  have h1 := fdT_ok (i := k) (r := m) hk (k + m)
  constructor
  · intro h
    rcases Nat.lt_or_ge (topN k m) x with h2 | h2
    · exfalso
      have h3 : x ≤ k + m := by
        rcases Nat.lt_or_ge (k + m) x with h4 | h4
        · have := chs_mono (Nat.le_of_lt h4) k
          have := chs_big hk m
          omega
        · exact h4
      have : ∀ t, x ≤ t → x ≤ fdT k m t := fun t => by
        induction t with
        | zero => intro h; exact h
        | succ t ih =>
          intro ht
          by_cases e : x = t + 1
          · rw [← e, fdT_yes h]; exact Nat.le_refl _
          · have := ih (by omega)
            unfold fdT
            split
            · omega
            · exact this
      have := this (k + m) h3
      unfold topN at h2
      omega
    · exact h2
  · intro h
    exact Nat.le_trans (chs_mono h k) h1
theorem top_is {k m a : Nat} (hk : 1 ≤ k) (h1 : chs a k ≤ m) (h2 : m < chs (a + 1) k) : topN k m = a := by
  have h3 := (top_iff hk a).1 h1
  rcases Nat.lt_or_ge a (topN k m) with h | h
  · have := (top_iff (m := m) hk (a + 1)).2 h
    omega
  · omega
theorem top_ge {k m : Nat} (hk : 1 ≤ k) (hm : 0 < m) : k ≤ topN k m := (top_iff hk k).1 (by rw [chs_self]; exact hm)
theorem top_le {k m : Nat} (hk : 1 ≤ k) : topN k m < k + m := by
  rcases Nat.lt_or_ge (topN k m) (k + m) with h | h
  · exact h
  · have := (top_iff (m := m) hk (k + m)).2 h
    have := chs_big hk m
    omega
def casL : Nat → Nat → List Nat
  | 0, _ => []
  | k + 1, m => if m = 0 then [] else topN (k + 1) m :: casL k (m - chs (topN (k + 1) m) (k + 1))
theorem cas_len : ∀ k m, (casL k m).length ≤ k
  | 0, _ => Nat.le_refl _
  | k + 1, m => by
    unfold casL
    split
    · exact Nat.zero_le _
    · rw [List.length_cons]
      exact Nat.succ_le_succ (cas_len k _)
theorem cas_at : ∀ k m i, i < (casL k m).length → k - i ≤ (casL k m).getD i 0 ∧ chs ((casL k m).getD i 0) (k - i) ≤ m
  | 0, m, i, h => absurd h (Nat.not_lt_zero _)
  | k + 1, m, i, h => by
    unfold casL at h ⊢
    by_cases e : m = 0
    · rw [if_pos e] at h; exact absurd h (Nat.not_lt_zero _)
    · rw [if_neg e] at h ⊢
      cases i with
      | zero => exact ⟨top_ge (by omega) (by omega), (top_iff (by omega) _).2 (Nat.le_refl _)⟩
      | succ i =>
        rw [List.length_cons] at h
        have ih := cas_at k (m - chs (topN (k + 1) m) (k + 1)) i (by omega)
        rw [show k + 1 - (i + 1) = k - i by omega]
        exact ⟨ih.1, Nat.le_trans ih.2 (Nat.sub_le _ _)⟩
/-- The least shadow. -/
def leN (k : Nat) (M : List Nat) : Nat := sumN M.length fun i => chs (M.getD i 0) (k - 1 - i)
theorem le_small {m k i : Nat} (hi : i < (casL k m).length) : chs ((casL k m).getD i 0) (k - 1 - i) ≤ k * m := by
  have h := cas_at k m i hi
  have hk := cas_len k m
  have h1 := chs_prev ((casL k m).getD i 0) (k - 1 - i) (by omega)
  rw [show k - 1 - i + 1 = k - i by omega] at h1
  refine Nat.le_trans h1 (Nat.mul_le_mul (Nat.sub_le _ _) h.2)
/- The same by looking upward, for the kernel. -/
def upT (k m : Nat) : Nat → Nat → Option Nat
  | 0, _ => none
  | f + 1, a => match Nat.ble (chs (a + 1) k) m with
    | true => upT k m f (a + 1)
    | false => match Nat.ble (chs a k) m with
      | true => some a
      | false => none
theorem upT_is {k m : Nat} (hk : 1 ≤ k) : ∀ f a b, upT k m f a = some b → topN k m = b
  | 0, _, _, h => by cases h
  | f + 1, a, b, h => by
    unfold upT at h
    cases e : Nat.ble (chs (a + 1) k) m with
    | true => rw [e] at h; exact upT_is hk f _ _ h
    | false =>
      rw [e] at h
      cases e2 : Nat.ble (chs a k) m with
      | false => simp only [e2] at h; cases h
      | true =>
        simp only [e2] at h
        cases h
        refine top_is hk (Nat.le_of_ble_eq_true e2) ?_
        rcases Nat.lt_or_ge m (chs (a + 1) k) with h | h
        · exact h
        · rw [Nat.ble_eq_true_of_le h] at e; cases e
/-- The least shadow itself. -/
def leK : Nat → Nat → Option Nat
  | 0, _ => some 0
  | k + 1, m => match Nat.beq m 0 with
    | true => some 0
    | false => match upT (k + 1) m 13 (k + 1) with
      | none => none
      | some a => match leK k (m - chs a (k + 1)) with
        | none => none
        | some r => some (chs a k + r)
theorem sumN_first (n : Nat) (f : Nat → Nat) : sumN (n + 1) f = f 0 + sumN n (fun i => f (i + 1)) := by
  induction n with
  | zero =>
    show 0 + f 0 = f 0 + 0
    omega
  | succ n ih =>
    show sumN (n + 1) f + f (n + 1) = f 0 + (sumN n (fun i => f (i + 1)) + f (n + 1))
    rw [ih]
    omega
theorem leK_is : ∀ k m r, leK k m = some r → leN k (casL k m) = r
  | 0, m, r, h => by
    have : (0 : Nat) = r := Option.some.inj h
    rw [← this]; rfl
  | k + 1, m, r, h => by
    unfold leK at h
    by_cases e : m = 0
    · subst e
      have : (0 : Nat) = r := Option.some.inj h
      rw [← this]
      show leN (k + 1) (casL (k + 1) 0) = 0
      unfold casL
      rw [if_pos rfl]; rfl
    · have hb : Nat.beq m 0 = false := by
        cases f : Nat.beq m 0 with
        | false => rfl
        | true => exact absurd (Nat.eq_of_beq_eq_true f) e
      simp only [hb] at h
      cases hu : upT (k + 1) m 13 (k + 1) with
      | none => simp only [hu] at h; cases h
      | some a =>
        simp only [hu] at h
        cases hl : leK k (m - chs a (k + 1)) with
        | none => simp only [hl] at h; cases h
        | some s =>
          simp only [hl] at h
          have ht := upT_is (by omega) _ _ _ hu
          have ih := leK_is k _ s hl
          have hr : chs a k + s = r := Option.some.inj h
          unfold casL
          rw [if_neg e, ht]
          unfold leN
          rw [List.length_cons, sumN_first]
          show chs a (k + 1 - 1 - 0) + _ = r
          rw [← hr, ← ih]
          unfold leN
          congr 1
          exact sumN_congr _ fun i _ => by
            show chs ((casL k (m - chs a (k + 1))).getD i 0) (k + 1 - 1 - (i + 1)) = _
            rw [show k + 1 - 1 - (i + 1) = k - 1 - i by omega]
def ltB : Nat → Nat → List Nat → Bool
  | _, _, [] => true
  | k, m, x :: l => match leK k m with
    | none => false
    | some r => match Nat.beq r x with
      | true => ltB k (Nat.succ m) l
      | false => false
set_option maxRecDepth 100000 in
theorem lt_all : (List.range 12).all (fun k => ltB (k + 1) 0 (ktT (k + 1))) = true := by decide +kernel
theorem ltB_is {k : Nat} : ∀ {l : List Nat} {m : Nat}, ltB k m l = true → ∀ i, i < l.length → leK k (m + i) = some (l.getD i 0)
  | [], _, _, i, hi => absurd hi (Nat.not_lt_zero _)
  | x :: l, m, h, i, hi => by
    unfold ltB at h
    cases e : leK k m with
    | none => rw [e] at h; cases h
    | some r =>
      simp only [e] at h
      cases f : Nat.beq r x with
      | false => simp only [f] at h; cases h
      | true =>
        simp only [f] at h
        cases i with
        | zero =>
          rw [Nat.add_zero, e, Nat.eq_of_beq_eq_true f]; rfl
        | succ i =>
          have := ltB_is (h : ltB k (m + 1) l = true) i (by simpa using hi)
          rw [show m + (i + 1) = m + 1 + i by omega, this]
          rfl
end Go.Proofs.Ytmogmkdcplgfjaa
