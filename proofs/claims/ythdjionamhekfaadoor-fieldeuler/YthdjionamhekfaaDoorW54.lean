/- The walks of turns, root and RootOf: the least element whose powers are all. -/
import Derived.Test.YthdjionamhekfaaDoorW25
namespace Go.Proofs.YthdjionamhekfaaDoor
open Go.RowKit

/-- n is the least number of factors a, one or more, whose product is 1. -/
def IsOrd (P K : Nat) (m : Nat → Int) (a n : Nat) : Prop := 1 ≤ n ∧ powQ P K m a n = 1 ∧ ∀ j, 1 ≤ j → j < n → powQ P K m a j ≠ 1
theorem IsOrd.one {P K : Nat} {m : Nat → Int} {a n n' : Nat} (h : IsOrd P K m a n) (h' : IsOrd P K m a n') : n = n' := by
  apply Classical.byContradiction
  intro e
  by_cases hlt : n < n'
  · exact h'.2.2 n h.1 hlt h.2.1
  · exact h.2.2 n' h'.1 (by omega) h'.2.1
/-- r is the least element whose powers are all but 0, or 0 where there is none. -/
def RootIs (P K : Nat) (m : Nat → Int) (r : Nat) : Prop :=
  (1 ≤ r ∧ r < P ^ K ∧ IsOrd P K m r (P ^ K - 1) ∧ ∀ a, 1 ≤ a → a < r → ¬ IsOrd P K m a (P ^ K - 1)) ∨ (r = 0 ∧ ∀ a, 1 ≤ a → a < P ^ K → ¬ IsOrd P K m a (P ^ K - 1))
theorem RootIs.one {P K : Nat} {m : Nat → Int} {r r' : Nat} (h : RootIs P K m r) (h' : RootIs P K m r') : r = r' := by
  rcases h with ⟨h1, h2, h3, h4⟩ | ⟨rfl, h⟩
  · rcases h' with ⟨h1', h2', h3', h4'⟩ | ⟨rfl, h'⟩
    · apply Classical.byContradiction
      intro e
      by_cases hlt : r < r'
      · exact h4' r h1 hlt h3
      · exact h4 r' h1' (by omega) h3'
    · exact absurd h3 (h' r h1 h2)
  · rcases h' with ⟨h1', h2', h3', h4'⟩ | ⟨rfl, h'⟩
    · exact absurd h3' (h r' h1' h2')
    · rfl
theorem RB.cell2 {w : World} {g : Nat} {p k q : Int} {f : Nat → Int} (h : RB w g p k q f) : w.cell? ⟨g, 2, none⟩ = some (.int .i64 q) := cell_of_row w g 2 _ _ _ h

end Go.Proofs.YthdjionamhekfaaDoor
