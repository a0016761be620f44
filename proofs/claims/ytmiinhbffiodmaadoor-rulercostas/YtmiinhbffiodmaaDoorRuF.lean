/- What lies in a permutation of a number. -/
import Derived.Test.YtmiinhbffiodmaaDoorRuE
namespace Go.Proofs.YtmiinhbffiodmaaDoor

theorem unrL_mem : ∀ m left k x, x ∈ unrL m left k → x = 0 ∨ x ∈ left
  | 0, _, _, _, h => by simp [unrL] at h
  | m + 1, left, k, x, h => by
    simp only [unrL, List.mem_cons] at h
    rcases h with h | h
    · by_cases hl : k / fac m < left.length
      · refine .inr ?_
        rw [h, List.getD_eq_getElem?_getD, List.getElem?_eq_getElem hl]
        exact List.getElem_mem hl
      · refine .inl ?_
        rw [h, List.getD_eq_getElem?_getD, List.getElem?_eq_none (by omega)]
        rfl
    · rcases unrL_mem m _ _ x h with h | h
      · exact .inl h
      · exact .inr (List.mem_of_mem_eraseIdx h)
theorem unrL_le {n k x : Nat} (h : x ∈ unrL n (List.range n) k) : x ≤ n := by
  rcases unrL_mem _ _ _ _ h with h | h
  · omega
  · have := List.mem_range.1 h; omega
/-- How many of the first k. -/
def cosK (n k : Nat) : Nat := (List.range k).countP fun k => cosQ (unrL n (List.range n) k)
theorem cosK_up (n k : Nat) : cosK n (k + 1) = cosK n k + if cosQ (unrL n (List.range n) k) then 1 else 0 := by
  unfold cosK
  rw [List.range_succ, List.countP_append]
  simp [List.countP_cons]
theorem cosK_le (n k : Nat) : cosK n k ≤ k := by
  unfold cosK
  refine Nat.le_trans List.countP_le_length ?_
  rw [List.length_range]; exact Nat.le_refl k

end Go.Proofs.YtmiinhbffiodmaaDoor
