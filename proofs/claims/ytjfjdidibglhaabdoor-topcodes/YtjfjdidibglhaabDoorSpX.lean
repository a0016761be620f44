/- Each space of rows has a basis; nothing of the program. -/
import Derived.Test.YtjfjdidibglhaabDoorSpN
namespace Go.Proofs.YtjfjdidibglhaabDoor
variable {q n : Nat} {ad mu : Nat → Nat → Nat} {ng : Nat → Nat}
theorem gz_ex (h : FqR q ad mu ng) {S : List (List Nat)} {R : Nat} {A : Nat → Nat → Nat} (hA : ∀ i j, i < R → j < n → A i j < q) (hS : rwF R n A = S) : ∀ c, c ≤ n → ∃ M t ld, Gz q n ad mu R S M c t ld
  | 0, _ => ⟨A, 0, _, by rw [← hS]; exact Gz.start n ad mu hA⟩
  | c + 1, hc => by
    obtain ⟨M, t, ld, G⟩ := gz_ex h hA hS c (by omega)
    by_cases e : ∀ r, t ≤ r → r < R → M r c = 0
    · exact ⟨M, t, ld, G.skip e⟩
    · have : ∃ k, t ≤ k ∧ k < R ∧ M k c ≠ 0 := Classical.byContradiction fun k => e fun r h1 h2 => Classical.byContradiction fun h3 => k ⟨r, h1, h2, h3⟩
      obtain ⟨k, h1, h2, h3⟩ := this
      have G2 := G.swap h1 h2
      have hm : swpF M t k t c ≠ 0 := by unfold swpF; rw [if_pos rfl]; exact h3
      have hl := G2.lt t c (by omega) (by omega)
      obtain ⟨u, hu, e⟩ := h.inv _ (by omega) hl
      exact ⟨_, _, _, G2.clear h (by omega) (by omega) hu (by rw [h.mu_comm _ _ hu hl]; exact e)⟩
theorem basis_ex (h : FqR q ad mu ng) {S : List (List Nat)} (hS : Rws q n S) : ∃ X, BasIs q ad mu n (Spn q ad mu n S) X := by
  have key : rwF S.length n (fun i j => (S.getD i []).getD j 0) = S := by
    refine List.ext_getElem (by simp [rwF]) fun i h1 h2 => ?_
    have : (rwF S.length n (fun i j => (S.getD i []).getD j 0))[i] = ofF n (fun j => (S.getD i []).getD j 0) := by simp [rwF]
    rw [this]
    have e : S.getD i [] = S[i] := by simp [List.getD_eq_getElem?_getD, h2]
    rw [e]
    exact ofF_getD _ (hS _ (List.getElem_mem h2)).len
  obtain ⟨M, t, ld, G⟩ := gz_ex h (S := S) (R := S.length) (A := fun i j => (S.getD i []).getD j 0) (fun i j hi _ => by
    have e : S.getD i [] = S[i] := by simp [List.getD_eq_getElem?_getD, hi]
    show (S.getD i []).getD j 0 < q
    rw [e]
    exact (hS _ (List.getElem_mem hi)).at h.pos j) key n (Nat.le_refl _)
  exact ⟨_, G.done h⟩
end Go.Proofs.YtjfjdidibglhaabDoor
