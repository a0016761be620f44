/- The walks of the document's BentOf, ImmuneOf. -/
import Derived.Test.YtioggiapkkeloabDoorCB4
import Derived.Deep.QuietTactic
import Derived.BigQuiet
namespace Go.Proofs.YtioggiapkkeloabDoor
open Go.RowKit

theorem wrapZ {z : Int} (h1 : -99999 ≤ z) (h2 : z ≤ 99999) : IntKind.i64.wrap z = z := by rw [IntKind.wrap_i64]; omega
def flB (N : Nat) (S : Nat → Int) : Bool := (List.range N).all fun a => S a == S 0 || S a == - S 0
theorem flB_iff {N : Nat} {S : Nat → Int} : flB N S = true ↔ Flat N S := by
  unfold flB Flat
  rw [List.all_eq_true]
  exact ⟨fun h a ha => by simpa using h a (List.mem_range.2 ha), fun h a ha => by simpa using h a (List.mem_range.1 ha)⟩
theorem flB_no {N : Nat} {S : Nat → Int} {a : Nat} (ha : a < N) (h : ¬ (S a = S 0 ∨ S a = - S 0)) : flB N S = false := by
  cases e : flB N S
  · rfl
  · exact (h (flB_iff.1 e a ha)).elim
theorem im_found {n m a : Nat} {S : Nat → Int} (hn : n ≤ 8) (hm : 1 ≤ m) (hmn : m ≤ n) (h : imB n S (m - 1) = true) (ha : a < 2 ^ n) (hw : wt a = m) (hS : S a ≠ 0) : imN n S n = m - 1 := by
  have h1 := imN_most h (m := n) (by omega)
  have h2 := imN_is S hn n
  apply Classical.byContradiction
  intro hc
  have h3 := imB_iff.1 (imB_down h2 (show m ≤ imN n S n by omega)) a ha (fun e => by rw [e, wt_nil] at hw; omega) (by omega)
  exact hS h3
theorem im_next {n m : Nat} {S : Nat → Int} (h : imB n S (m - 1) = true) (hm : 1 ≤ m) (k : ∀ a, a < 2 ^ n → a ≠ 0 → wt a = m → S a = 0) : imB n S m = true := imB_iff.2 fun a ha h0 hw => by
  by_cases e : wt a = m
  · exact k a ha h0 e
  · exact imB_iff.1 h a ha h0 (by omega)
theorem im_all {n : Nat} {S : Nat → Int} (h : imB n S n = true) : imN n S n = n := by
  have := imN_most h (m := n) (Nat.le_refl _)
  have := imN_le n S n
  omega
end Go.Proofs.YtioggiapkkeloabDoor
