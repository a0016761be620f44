/- The first field of an order. -/
import Derived.Test.YtcjkcgfohmhbcabDoorPureC
namespace Go.Proofs.YtcjkcgfohmhbcabDoor.Fd

/-- The n-th field of that prime and degree is one. -/
def goodAt (P K n : Nat) : Prop := irrP (digF (P ^ K + n) P) K P
/-- What Least is to answer: the first field, or what is wrong. -/
def LeastIs (p k q d : Int) (l : List Int) (z : Int) : Prop :=
  (ordZ p k = 0 ∧ q = 0 ∧ d = 0 ∧ l = [] ∧ z = 1) ∨
  ∃ P K : Nat, p = P ∧ k = K ∧ ordZ p k ≠ 0 ∧
    ((∃ n, n < P ^ K ∧ goodAt P K n ∧ (∀ m, m < n → ¬ goodAt P K m) ∧ q = p ∧ d = k ∧ l = digL n P K ∧ z = 0) ∨
     ((∀ m, m < P ^ K → ¬ goodAt P K m) ∧ q = 0 ∧ d = 0 ∧ l = [] ∧ z = 4))
theorem LeastIs.one {p k q d q' d' : Int} {l l' : List Int} {z z' : Int} (h : LeastIs p k q d l z) (h' : LeastIs p k q' d' l' z') : q = q' ∧ d = d' ∧ l = l' ∧ z = z' := by
  rcases h with ⟨a, rfl, rfl, rfl, rfl⟩ | ⟨P, K, e1, e2, a, h⟩
  · rcases h' with ⟨_, rfl, rfl, rfl, rfl⟩ | ⟨P', K', e1', e2', a', h'⟩
    · exact ⟨rfl, rfl, rfl, rfl⟩
    · exact absurd a a'
  · rcases h' with ⟨a', _⟩ | ⟨P', K', e1', e2', a', h'⟩
    · exact absurd a' a
    · obtain rfl : P = P' := by omega
      obtain rfl : K = K' := by omega
      rcases h with ⟨n, hn, hg, hm, rfl, rfl, rfl, rfl⟩ | ⟨hm, rfl, rfl, rfl, rfl⟩
      · rcases h' with ⟨n', hn', hg', hm', rfl, rfl, rfl, rfl⟩ | ⟨hm', _⟩
        · have : n = n' := by
            apply Classical.byContradiction
            intro e
            by_cases hlt : n < n'
            · exact hm' n hlt hg
            · exact hm n' (by omega) hg'
          subst this
          exact ⟨rfl, rfl, rfl, rfl⟩
        · exact absurd hg (hm' n hn)
      · rcases h' with ⟨n', hn', hg', _⟩ | ⟨_, rfl, rfl, rfl, rfl⟩
        · exact absurd hg' (hm n' hn')
        · exact ⟨rfl, rfl, rfl, rfl⟩

end Go.Proofs.YtcjkcgfohmhbcabDoor.Fd
