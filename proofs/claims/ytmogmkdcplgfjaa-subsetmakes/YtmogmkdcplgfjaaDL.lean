/- The walks of the document's Lies and all. -/
import Derived.Test.YtmogmkdcplgfjaaPList
namespace Go.Proofs.Ytmogmkdcplgfjaa
open Go.RowKit

theorem ofNat_at (b : List Nat) {j : Nat} (hj : j < b.length) : (b.map Int.ofNat).getD j 0 = ((b.getD j 0 : Nat) : Int) := by
  simp [hj]
theorem contains_get {b : List Nat} {x j : Nat} (hj : j < b.length) (e : b.getD j 0 = x) : b.contains x = true := by
  rw [List.contains_iff_mem, ← e, List.getD_eq_getElem?_getD, List.getElem?_eq_getElem hj]
  exact List.getElem_mem hj
theorem contains_no {b : List Nat} {x : Nat} (h : ∀ j, j < b.length → b.getD j 0 ≠ x) : b.contains x = false := by
  cases e : b.contains x with
  | false => rfl
  | true =>
    rw [List.contains_iff_mem] at e
    obtain ⟨j, hj, e⟩ := List.mem_iff_getElem.1 e
    exact (h j hj (by rw [List.getD_eq_getElem?_getD, List.getElem?_eq_getElem hj]; exact e)).elim
end Go.Proofs.Ytmogmkdcplgfjaa
