/- The walks of Sum and Times of the document's answer. -/
import Derived.Test.YthdjionamhekfaaDoorW46
import Derived.Test.YthdjionamhekfaaDoorBase
import Derived.Test.YthdjionamhekfaaDoorW19
namespace Go.Proofs.YthdjionamhekfaaDoor
open Go.RowKit

theorem digL_all {n p k : Nat} (hn : n < p ^ k) (hp : 2 ≤ p) (t : Nat) : (digL n p k).getD t 0 = digF n p t := by
  by_cases h : t < k
  · exact digL_at _ _ _ _ h
  · rw [digF_small hn hp t (by omega)]
    simp [digL, h]
theorem Own.of_dig {w : World} {base n p k : Nat} {v : Value} (h : w.ownsRow base 3 1 v k ((digL n p k).map (Value.int .i64))) (hk : 1 ≤ k) (hn : n < p ^ k) (hp : 2 ≤ p) :
    ∃ g cap, v = .slice (some ⟨g, 0, none⟩) k cap ∧ base ≤ g ∧ Own w g k (digF n p) := by
  obtain ⟨g, cap, e, hb, hO⟩ := Own.of h (by omega)
  exact ⟨g, cap, e, hb, hO.congr (fun t _ => digL_all hn hp t)⟩

end Go.Proofs.YthdjionamhekfaaDoor
