/- The numbers of a strong graph: there is one answer; what it has to do with the other's; a quotient and its parity. Nothing of the program. -/
import Derived.Test.YtlmjlffipinjiabSrK
namespace Go.Proofs.Ytlmjlffipinjiab
section
/-- The numbers: 0 where there is no such pair. -/
structure StN (n : Nat) (k l m : Int) (A : Nat → Nat → Int) : Prop where
  st : Stg n k l m A
  nl : (∀ a b, a < n → b < n → A a b ≠ 1) → l = 0
  nm : (∀ a b, a < n → b < n → a ≠ b → A a b ≠ 0) → m = 0
variable {n : Nat} {A : Nat → Nat → Int} {k l m k' l' m' : Int}
theorem StN.one (S : StN n k l m A) (T : StN n k' l' m' A) (hn : 1 ≤ n) : k = k' ∧ l = l' ∧ m = m' := by
  refine ⟨(S.st.deg 0 hn).symm.trans (T.st.deg 0 hn), ?_, ?_⟩
  · by_cases h : ∀ a b, a < n → b < n → A a b ≠ 1
    · rw [S.nl h, T.nl h]
    · refine Classical.byContradiction fun q => h fun a b ha hb e => q ?_
      exact (S.st.near a b ha hb e).symm.trans (T.st.near a b ha hb e)
  · by_cases h : ∀ a b, a < n → b < n → a ≠ b → A a b ≠ 0
    · rw [S.nm h, T.nm h]
    · refine Classical.byContradiction fun q => h fun a b ha hb hne e => q ?_
      exact (S.st.far a b ha hb hne e).symm.trans (T.st.far a b ha hb hne e)
theorem Stg.norm (S : Stg n k l m A) : ∃ l m, StN n k l m A := by
  have hl : ∃ l', (∀ a b, a < n → b < n → A a b = 1 → cmG n A a b = l') ∧ ((∀ a b, a < n → b < n → A a b ≠ 1) → l' = 0) := by
    by_cases h : ∀ a b, a < n → b < n → A a b ≠ 1
    · exact ⟨0, fun a b ha hb e => absurd e (h a b ha hb), fun _ => rfl⟩
    · exact ⟨l, S.near, fun q => absurd q h⟩
  have hm : ∃ m', (∀ a b, a < n → b < n → a ≠ b → A a b = 0 → cmG n A a b = m') ∧ ((∀ a b, a < n → b < n → a ≠ b → A a b ≠ 0) → m' = 0) := by
    by_cases h : ∀ a b, a < n → b < n → a ≠ b → A a b ≠ 0
    · exact ⟨0, fun a b ha hb hne e => absurd e (h a b ha hb hne), fun _ => rfl⟩
    · exact ⟨m, S.far, fun q => absurd q h⟩
  obtain ⟨l', h1, h2⟩ := hl
  obtain ⟨m', h3, h4⟩ := hm
  exact ⟨l', m', ⟨S.deg, h1, h3⟩, h2, h4⟩
theorem Stg.edge (S : Stg n k l m A) (G : Gr n A) (hn : 1 ≤ n) (hk : 1 ≤ k) : ∃ a b, a < n ∧ b < n ∧ A a b = 1 := by
  have d0 := S.deg 0 hn
  obtain ⟨b, hb, hA⟩ : ∃ b, b < n ∧ A 0 b ≠ 0 := sR_some (by show dgG n A 0 ≠ 0; omega)
  refine ⟨0, b, hn, hb, ?_⟩
  rcases G.bit 0 b hn hb with h | h
  · exact absurd h hA
  · exact h
theorem Stg.gap (S : Stg n k l m A) (G : Gr n A) (hn : 1 ≤ n) (hk : k + 2 ≤ n) : ∃ a b, a < n ∧ b < n ∧ a ≠ b ∧ A a b = 0 := by
  obtain ⟨a, b, ha, hb, e⟩ := (S.other G).edge G.other hn (by omega)
  have hne : a ≠ b := fun q => by
    subst q
    rw [G.other.diag a ha] at e
    exact absurd e (by decide)
  refine ⟨a, b, ha, hb, hne, ?_⟩
  unfold otG at e
  rw [if_neg hne] at e
  omega
/-- With somebody joined and somebody not, these are the numbers. -/
theorem Stg.stn (S : Stg n k l m A) (G : Gr n A) (hn : 1 ≤ n) (h1 : 1 ≤ k) (h2 : k + 2 ≤ n) : StN n k l m A := by
  obtain ⟨a, b, ha, hb, e⟩ := S.edge G hn h1
  obtain ⟨c, d, hc, hd, hne, e'⟩ := S.gap G hn h2
  exact ⟨S, fun h => absurd e (h a b ha hb), fun h => absurd e' (h c d hc hd hne)⟩
theorem StN.fits {d : Int} (S : StN n k l m A) (G : Gr n A) (hn : 1 ≤ n) (hk : 1 ≤ k) (hd : d = (l - m) * (l - m) + 4 * (k - m)) :
    k * (k - l - 1) = (n - k - 1) * m ∧ 0 ≤ l ∧ l + 1 ≤ k ∧ 0 ≤ m ∧ m ≤ k ∧ k + 1 ≤ n ∧
    ((2 * k + (n - 1) * (l - m) = 0 ∧ n % 2 = 1) ∨ ∃ r f : Nat, 1 ≤ r ∧ (r * r : Int) = d ∧ f + 1 ≤ n ∧ (n - 1 - 2 * f : Int) * r = 2 * k + (n - 1) * (l - m)) := by
  refine S.st.fits G hn hk ?_ hd
  by_cases h : ∀ a b, a < n → b < n → a ≠ b → A a b ≠ 0
  · exact .inr (S.nm h)
  · left
    refine Classical.byContradiction fun q => h fun a b ha hb hne e => q ⟨a, b, ha, hb, hne, e⟩
/-- The other's numbers. -/
theorem StN.other (S : StN n k l m A) (G : Gr n A) : ∃ l' m', StN n (n - 1 - k) l' m' (otG A) ∧ (1 ≤ n → 1 ≤ k → k + 2 ≤ n → l' = n - 2 - 2 * k + m ∧ m' = n - 2 * k + l) := by
  obtain ⟨l', m', T⟩ := (S.st.other G).norm
  refine ⟨l', m', T, fun hn h1 h2 => ?_⟩
  have U := (S.st.other G).stn G.other hn (by omega) (by omega)
  obtain ⟨_, e1, e2⟩ := T.one U hn
  exact ⟨e1, e2⟩
theorem Gr.congr {B : Nat → Nat → Int} (G : Gr n A) (h : ∀ a b, a < n → b < n → B a b = A a b) : Gr n B where
  bit a b ha hb := by rw [h a b ha hb]; exact G.bit a b ha hb
  sym a b ha hb := by rw [h a b ha hb, h b a hb ha]; exact G.sym a b ha hb
  diag a ha := by rw [h a a ha ha]; exact G.diag a ha
/-- Strong, just if the other is. -/
theorem other_strong (G : Gr n A) : (∃ k l m, StN n k l m A) ↔ ∃ k l m, StN n k l m (otG A) := by
  constructor
  · rintro ⟨k, l, m, S⟩
    obtain ⟨l', m', T, _⟩ := S.other G
    exact ⟨_, _, _, T⟩
  · rintro ⟨k, l, m, S⟩
    have T := (S.st.other G.other).congr (B := A) fun a b ha hb => (otG_otG G ha).symm
    obtain ⟨l', m', U⟩ := T.norm
    exact ⟨_, _, _, U⟩
end
/-- How often an eigenvalue comes, or a quotient and its parity: the same. -/
theorem ft_quo {v x : Int} {r : Nat} (hr : 1 ≤ r) : (∃ f : Nat, (f : Int) < v ∧ (v - 1 - 2 * f) * r = x) ↔ x % r = 0 ∧ (x / r - (v - 1)) % 2 = 0 ∧ -(v - 1) ≤ x / r ∧ x / r ≤ v - 1 := by
  have hr0 : (r : Int) ≠ 0 := by omega
  constructor
  · rintro ⟨f, hf, rfl⟩
    rw [Int.mul_emod_left, Int.mul_ediv_cancel _ hr0]
    omega
  · rintro ⟨h1, h2, h3, h4⟩
    obtain ⟨q, rfl⟩ : (r : Int) ∣ x := Int.dvd_of_emod_eq_zero h1
    rw [Int.mul_ediv_cancel_left _ hr0] at h2 h3 h4
    refine ⟨((v - 1 - q) / 2).toNat, by omega, ?_⟩
    have : ((((v - 1 - q) / 2).toNat : Nat) : Int) = (v - 1 - q) / 2 := Int.toNat_of_nonneg (by omega)
    rw [this, Int.mul_comm]
    congr 1
    omega
end Go.Proofs.Ytlmjlffipinjiab
