/- The law TripleMakes. -/
import Derived.Test.YtdeofjmgjhfkcabDoorDFa
import Derived.Test.YtdeofjmgjhfkcabDoorP14
import Derived.Test.YtdeofjmgjhfkcabDoorD1
/- The walk of the document's Designs. -/
/- The walk of the document's Lists. -/
namespace Go.Proofs.YtdeofjmgjhfkcabDoor
open Go.RowKit

theorem rows_ext {ls ms : List (List Int)} (hl : ls.length = ms.length) (h : ∀ i : Nat, i < ls.length → ls[i]? = ms[i]?) : ls = ms := by
  apply List.ext_getElem? 
  intro i
  by_cases hi : i < ls.length
  · exact h i hi
  · rw [List.getElem?_eq_none (by omega), List.getElem?_eq_none (by omega)]
end Go.Proofs.YtdeofjmgjhfkcabDoor

namespace Go.Proofs.YtdeofjmgjhfkcabDoor
open Go.RowKit

end Go.Proofs.YtdeofjmgjhfkcabDoor

namespace Go.Proofs.YtdeofjmgjhfkcabDoor
open Go.RowKit

theorem srt_short {L Z : List (List Nat)} (h3 : ∀ b ∈ L, b.length = 3) (hS : Srtd L Z) (h6 : L.length ≤ 6000) : (toZ Z).length ≤ maxLen ∧ ∀ l ∈ toZ Z, l.length ≤ maxLen := by
  refine ⟨by have := hS.len; simp [toZ]; unfold maxLen; omega, fun l hl => ?_⟩
  obtain ⟨b, hb, rfl⟩ := List.mem_map.1 hl
  have := h3 b (hS.perm.mem_iff.1 hb)
  rw [List.length_map]; unfold maxLen; omega
theorem boL_len {t : Nat} (h : t ≤ 5) : (boL t).length ≤ 6000 := by
  unfold boL
  rw [List.length_append, upL_len]
  have := slY_len (2 * t + 1) (boF t (2 * t + 1)) (2 * t + 1) (by omega)
  omega
theorem skL_len {t : Nat} (h : t ≤ 5) : (skL t).length ≤ 6000 := by
  unfold skL
  rw [List.length_append, skX_len]
  have := slY_len (2 * t) (skF t (2 * t)) (2 * t) (by omega)
  omega
theorem MkT.len {v p e : Int} {L : List (List Nat)} (h : MkT v p e L) : L.length ≤ 6000 := by
  rcases h with ⟨_, _, _, rfl⟩ | ⟨n, _, _, _, ⟨_, _, _, rfl⟩ | ⟨_, _, _, _, rfl⟩⟩
  · simp
  · unfold mkL
    by_cases h : n % 6 = 1
    · rw [if_pos h]; exact skL_len (by omega)
    · rw [if_neg h]; exact boL_len (by omega)
  · simp
theorem rw_form {w : World} {x : Value} {Z : List (List Nat)} (h : Rw w x (toZ Z)) : ∃ a c, x = .slice a Z.length c := by
  obtain ⟨a, c, e, _⟩ := h
  exact ⟨a, c, by rw [e]; simp [toZ]⟩
end Go.Proofs.YtdeofjmgjhfkcabDoor
