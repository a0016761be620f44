/- A cycle out of all cycles, in memory. -/
import Derived.Test.YteocfkkdjejgdaaDoorPCyc
namespace Go.Proofs.YteocfkkdjejgdaaDoor
open Go.RowKit

theorem CycR.at' {w : World} {base : Nat} {a : Option Addr} {c n : Nat} {ls : List (List Nat)} (h : CycR w base (.slice a n c) ls) {i : Nat} {l : List Nat} (hl : ls[i]? = some l) : ∃ b off u, a = some ⟨b, off, none⟩ ∧ w.cell? ⟨b, off + i, none⟩ = some u ∧ RowIs w base u l := by
  obtain ⟨vals, h1, h2⟩ := h
  obtain ⟨h3, ⟨e, h4⟩ | ⟨g, cap, cur, e, h6, h7, h8, h9, h10, ht⟩⟩ := h1
  · rw [List.length_eq_zero_iff.1 h4] at hl; simp at hl
  · cases e
    have hi : i < ls.length := by
      rcases Nat.lt_or_ge i ls.length with h | h
      · exact h
      · rw [List.getElem?_eq_none h] at hl; simp at hl
    have e : (cur.toList.take (ls.length * 1))[i]? = vals[i]? := by rw [ht]
    rw [List.getElem?_take, if_pos (by omega)] at e
    obtain ⟨u, hu⟩ : ∃ u, vals[i]? = some u := ⟨vals[i]'(by omega), by simp⟩
    refine ⟨g, 0, u, rfl, ?_, h2 i u l hu hl⟩
    rw [cell_of_row w g _ _ _ _ h7, Nat.zero_add, ← Array.getElem?_toList, e, hu]
theorem cycs_len_le (n : Nat) (f : Nat → Nat) (k : Nat) : (cycs n f k).length ≤ k := by
  unfold cycs leads; rw [List.length_map]; have := List.length_filter_le (leadB n f) (List.range k); rwa [List.length_range] at this

end Go.Proofs.YteocfkkdjejgdaaDoor
