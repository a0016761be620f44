/- The walk of the document's FarOf. -/
import Derived.Test.YtioggiapkkeloabDoorCB3
namespace Go.Proofs.YtioggiapkkeloabDoor
open Go.RowKit

/-- From how many the sum is unlike, of those below k. -/
def cnS (l : List Int) (a : Nat) : Nat → Nat
  | 0 => 0
  | k + 1 => cnS l a k + if ((wt (a &&& k) % 2 : Nat) : Int) ≠ tf l k then 1 else 0
theorem cnS_le (l : List Int) (a : Nat) : ∀ k, cnS l a k ≤ k
  | 0 => Nat.le_refl _
  | k + 1 => by
    have := cnS_le l a k
    rw [cnS]; split <;> omega
theorem cnS_sp {l : List Int} {a : Nat} : ∀ {k : Nat}, (∀ x, x < k → tf l x = 0 ∨ tf l x = 1) → spS l a k = k - 2 * (cnS l a k : Int)
  | 0, _ => by simp [spS, sm, cnS]
  | k + 1, h => by
    rw [spS_succ, cnS_sp fun x hx => h x (by omega), cnS]
    have ht := h k (by omega)
    have e : tg (tf l) k = 1 - 2 * tf l k := rfl
    rw [e, sp_term ht]
    rcases ht with e | e <;> rw [e] <;> rcases Nat.mod_two_eq_zero_or_one (wt (a &&& k)) with g | g <;> rw [g]
    · rw [if_pos (by omega), if_neg (by simp)]; omega
    · rw [if_neg (by omega), if_pos (by simp)]; omega
    · rw [if_neg (by omega), if_pos (by simp)]; omega
    · rw [if_pos (by omega), if_neg (by simp)]; omega
/-- What was found so far. -/
def BsI (N : Nat) (c : Nat → Nat) (a b : Nat) : Prop := b ≤ N ∧ (∀ x, x < a → b ≤ c x ∧ b + c x ≤ N) ∧ (b = N ∨ ∃ x, x < a ∧ (b = c x ∨ b + c x = N))
theorem BsI.start (N : Nat) (c : Nat → Nat) : BsI N c 0 N := ⟨Nat.le_refl _, fun x h => by omega, .inl rfl⟩
theorem min_one {c b b1 : Nat} (e1 : b1 = if c < b then c else b) : b1 ≤ b ∧ b1 ≤ c ∧ (b1 = b ∨ b1 = c) := by
  by_cases x : c < b
  · rw [if_pos x] at e1; omega
  · rw [if_neg x] at e1; omega
theorem min_two {N c b1 b2 : Nat} (hc : c ≤ N) (e2 : b2 = if N - c < b1 then N - c else b1) : b2 ≤ b1 ∧ b2 + c ≤ N ∧ (b2 = b1 ∨ b2 + c = N) := by
  by_cases x : N - c < b1
  · rw [if_pos x] at e2; omega
  · rw [if_neg x] at e2; omega
theorem BsI.step {N a b : Nat} {c : Nat → Nat} (h : BsI N c a b) (hc : c a ≤ N) (b1 b2 : Nat) (e1 : b1 = if c a < b then c a else b) (e2 : b2 = if N - c a < b1 then N - c a else b1) : BsI N c (a + 1) b2 := by
  obtain ⟨h1, h2, h3⟩ := h
  obtain ⟨k1, k2, k3⟩ := min_one e1
  obtain ⟨l1, l2, l3⟩ := min_two hc e2
  clear e1 e2
  refine ⟨by omega, fun x hx => ?_, ?_⟩
  · by_cases e : x = a
    · subst e; omega
    · have := h2 x (by omega); omega
  · rcases l3 with e | e
    · rcases k3 with f | f
      · rcases h3 with g | ⟨x, hx, g⟩
        · exact .inl (by omega)
        · exact .inr ⟨x, by omega, by omega⟩
      · exact .inr ⟨a, by omega, .inl (by omega)⟩
    · exact .inr ⟨a, by omega, .inr (by omega)⟩
theorem BsI.far {N b : Nat} {c : Nat → Nat} {S : Nat → Int} (h : BsI N c N b) (hN : 1 ≤ N) (hS : ∀ a, a < N → S a = N - 2 * (c a : Int)) : FarIs N S b := by
  obtain ⟨h1, h2, h3⟩ := h
  refine ⟨fun a ha => ?_, ?_⟩
  · have := h2 a ha
    rw [hS a ha]; omega
  · rcases h3 with e | ⟨x, hx, e⟩
    · have := h2 0 (by omega)
      omega
    · refine ⟨x, hx, ?_⟩
      rw [hS x hx]
      rcases e with e | e
      · exact .inl (by omega)
      · exact .inr (by omega)
end Go.Proofs.YtioggiapkkeloabDoor
