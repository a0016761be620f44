/- The document's search for the best; nothing of the program. -/
import Derived.Test.YtmiinhbffiodmaaDoorRuD
namespace Go.Proofs.YtmiinhbffiodmaaDoor

/-- Goes on with marks up to a length, the least first. -/
def mkS : Nat → Nat → Nat → List Nat → Option (List Nat)
  | 0, n, long, l => if l.length = n then (if l.getD (n - 1) 0 = long then some l else none) else none
  | f + 1, n, long, l => if l.length = n then (if l.getD (n - 1) 0 = long then some l else none) else
    (List.range (long - l.getD (l.length - 1) 0)).findSome? fun d => if golB (l ++ [l.getD (l.length - 1) 0 + 1 + d]) then mkS f n long (l ++ [l.getD (l.length - 1) 0 + 1 + d]) else none
theorem getD_last (l : List Nat) (x : Nat) : (l ++ [x]).getD ((l ++ [x]).length - 1) 0 = x := by
  rw [List.getD_eq_getElem?_getD, List.length_append, List.length_singleton, Nat.add_sub_cancel, List.getElem?_append_right (Nat.le_refl _), Nat.sub_self]; rfl
theorem rise_more {l : List Nat} {x : Nat} (hr : l.Pairwise (· < ·)) (h : l.getD (l.length - 1) 0 < x) : (l ++ [x]).Pairwise (· < ·) := by
  rw [List.pairwise_append]
  refine ⟨hr, List.pairwise_singleton _ _, fun a ha b hb => ?_⟩
  obtain rfl := List.mem_singleton.1 hb
  obtain ⟨i, hi, rfl⟩ := List.mem_iff_getElem.1 ha
  have := rise_le hr (show i ≤ l.length - 1 by omega) (by omega)
  rw [List.getD_eq_getElem?_getD, List.getElem?_eq_getElem hi] at this
  simp only [Option.getD_some] at this
  omega
theorem mkS_some : ∀ (f n long : Nat) (l out : List Nat), l.Pairwise (· < ·) → 1 ≤ l.length → l.getD 0 0 = 0 → golB l = true → mkS f n long l = some out → out.Pairwise (· < ·) ∧ out.getD 0 0 = 0 ∧ golB out = true ∧ out.length = n ∧ out.getD (n - 1) 0 = long := by
  intro f
  induction f with
  | zero =>
    intro n long l out hr h1 h0 hg h
    unfold mkS at h
    split at h
    · split at h
      · cases h; exact ⟨hr, h0, hg, by assumption, by assumption⟩
      · cases h
    · cases h
  | succ f ih =>
    intro n long l out hr h1 h0 hg h
    unfold mkS at h
    split at h
    · split at h
      · cases h; exact ⟨hr, h0, hg, by assumption, by assumption⟩
      · cases h
    · obtain ⟨d, hd, h⟩ := List.exists_of_findSome?_eq_some h
      split at h
      · refine ih n long _ out (rise_more hr (by omega)) (by simp) ?_ (by assumption) h
        rw [List.getD_eq_getElem?_getD, List.getElem?_append_left (by omega), ← List.getD_eq_getElem?_getD]; exact h0
      · cases h
theorem golB_one : golB [0] = true := by decide +kernel
theorem mkS_short {n long : Nat} (h1 : 1 ≤ n) (h7 : n ≤ 7) (h : long < bestN n) : mkS (n - 1) n long [0] = none := by
  match e : mkS (n - 1) n long [0] with
  | none => rfl
  | some out =>
    obtain ⟨a, b, c, d, k⟩ := mkS_some _ _ _ _ _ (List.pairwise_singleton _ _) (by simp) rfl golB_one e
    have := best_short a b c (by omega) (by omega)
    rw [d, k] at this
    omega
theorem mkS_best : ∀ n : Fin 8, 1 ≤ n.val → mkS (n.val - 1) n.val (bestN n.val) [0] = some (bestL n.val) := by decide +kernel
theorem best_25 : ∀ n : Fin 8, bestN n.val ≤ 25 := by decide +kernel

end Go.Proofs.YtmiinhbffiodmaaDoor
