/- Rows that pass: as rows of numbers. -/
import Derived.Test.YtagpbkcnjogbgaaX8
import Derived.Test.YtagpbkcnjogbgaaLExt
namespace Go.Proofs.Ytagpbkcnjogbgaa
open Go.RowKit Go.Maps

theorem toI_len (all : List (List Nat)) : (toI all).length = all.length := by simp [toI]
theorem toI_toNat {ls : List (List Int)} (h : ∀ l ∈ ls, ∀ x ∈ l, 0 ≤ x) : toI (ls.map fun l => l.map Int.toNat) = ls := by
  unfold toI
  rw [List.map_map]
  conv => rhs; rw [← List.map_id ls]
  apply List.map_congr_left
  intro l hl
  simp only [Function.comp, List.map_map, id]
  conv => rhs; rw [← List.map_id l]
  apply List.map_congr_left
  intro x hx
  have := h l hl x hx
  simp only [Function.comp, id]
  exact Int.toNat_of_nonneg this
theorem flat_toNat (ls : List (List Int)) : (ls.map fun l => l.map Int.toNat).flatten = ls.flatten.map Int.toNat := by
  rw [List.map_flatten]
theorem getD_toNat (L : List Int) {j : Nat} (hj : j < L.length) : (L.map Int.toNat).getD j 0 = (L.getD j 0).toNat := by
  simp [hj]
theorem getD_mem {L : List Int} {j : Nat} (hj : j < L.length) : L.getD j 0 ∈ L := by
  rw [List.getD_eq_getElem?_getD, List.getElem?_eq_getElem hj]
  exact List.getElem_mem hj
theorem rows_ok {n : Nat} {ls : List (List Int)} (h : rowsF n ls = 0) : ∀ l ∈ ls, ∀ x ∈ l, 0 ≤ x ∧ x < n := by
  intro l hl x hx
  obtain ⟨h1, h2⟩ := rowsF_ok h l hl
  obtain ⟨j, hj, rfl⟩ := List.getElem_of_mem hx
  have := h2 j (by omega)
  simpa [hj] using this
theorem eF_ok {n : Int} {ls : List (List Int)} (h : eF n ls = 0) : ∃ (k : Nat) (all : List (List Nat)), n = k ∧ 1 ≤ k ∧ k ≤ 8 ∧ toI all = ls ∧ all.length ≤ k ∧ (∀ r ∈ all, r.length = k) ∧ Part k all.flatten := by
  unfold eF at h
  split at h
  · cases h
  rename_i h1
  split at h
  · cases h
  rename_i h2
  split at h
  · rename_i h3; exact absurd h h3
  rename_i h3
  split at h
  · rename_i h4
    obtain ⟨k, rfl⟩ : ∃ k : Nat, n = k := ⟨n.toNat, by omega⟩
    have hk : ((k : Int)).toNat = k := by omega
    rw [hk] at h3 h4
    have h3 : rowsF k ls = 0 := Classical.byContradiction h3
    have hx := rows_ok h3
    refine ⟨k, ls.map fun l => l.map Int.toNat, rfl, by omega, by omega, toI_toNat fun l hl x hx' => (hx l hl x hx').1, by rw [List.length_map]; omega, fun r hr => ?_, ?_, ?_⟩
    · obtain ⟨l, hl, rfl⟩ := List.mem_map.1 hr
      rw [List.length_map]
      exact (rowsF_ok h3 l hl).1
    · intro x hm
      rw [flat_toNat] at hm
      obtain ⟨y, hy, rfl⟩ := List.mem_map.1 hm
      obtain ⟨l, hl, hy⟩ := List.mem_flatten.1 hy
      have := hx l hl y hy
      omega
    · intro i j hji hi e
      rw [flat_toNat, List.length_map] at hi
      rw [flat_toNat, getD_toNat _ (by omega), getD_toNat _ hi] at e
      have p1 : 0 ≤ ls.flatten.getD i 0 := by
        obtain ⟨l, hl, hy⟩ := List.mem_flatten.1 (getD_mem hi)
        exact (hx l hl _ hy).1
      have p2 : 0 ≤ ls.flatten.getD j 0 := by
        obtain ⟨l, hl, hy⟩ := List.mem_flatten.1 (getD_mem (show j < ls.flatten.length by omega))
        exact (hx l hl _ hy).1
      have := onB_iff.1 h4 i j hji hi (by omega)
      exact ⟨fun e => this.1 e.symm, fun e => this.2 e.symm⟩
  · cases h
end Go.Proofs.Ytagpbkcnjogbgaa
