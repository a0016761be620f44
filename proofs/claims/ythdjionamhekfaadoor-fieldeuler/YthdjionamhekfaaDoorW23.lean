/- The walk of Times of the document's answer; the two products are one. -/
import Derived.Test.YthdjionamhekfaaDoorW22
import Derived.Deep.QuietTactic
import Derived.BigQuiet
namespace Go.Proofs.YthdjionamhekfaaDoor
open Go.RowKit

theorem prod_same {P K a b : Nat} {m : Nat → Int} (hP : 2 ≤ P) (hK : 1 ≤ K) (hK' : K ≤ 6) (ha : a < P ^ K) (hb : b < P ^ K) :
    redN m K P (11 - K) (mulN (digF a P) (digF b P) P 6 6) = redN m K P K (mulN (digF a P) (digF b P) P K K) := by
  have hp : (0 : Int) < P := by omega
  have e1 : mulN (digF a P) (digF b P) P 6 6 = mulN (digF a P) (digF b P) P K K := by
    rw [show (6 : Nat) = K + (6 - K) by omega, mulN_few hp (fun t ht => digF_small ha hP t ht), ← show (6 : Nat) = K + (6 - K) by omega, mulN_short hp (fun t ht => digF_small hb hP t ht) hK']
  rw [e1]
  have hin := mulN_in (a := digF a P) (b := digF b P) (j := K) hp K
  by_cases h1 : K = 1
  · subst h1
    have h := redN_more (m := m) (d := 1) 1 hin (fun t ht => mulN_over 1 t (by omega)) (Nat.le_refl _) 9
    exact h
  · have h0 : ∀ t, 2 * K - 2 < t → mulN (digF a P) (digF b P) P K K t = 0 := fun t ht => mulN_over K t (by omega)
    have h2 := redN_more (m := m) (d := K) (2 * K - 2) hin h0 (by omega) (12 - 2 * K)
    have h3 := redN_more (m := m) (d := K) (2 * K - 2) hin h0 (by omega) 1
    rw [show 2 * K - 2 + 1 - K + (12 - 2 * K) = 11 - K by omega] at h2
    rw [show 2 * K - 2 + 1 - K + 1 = K by omega] at h3
    rw [h2, h3]

end Go.Proofs.YthdjionamhekfaaDoor
