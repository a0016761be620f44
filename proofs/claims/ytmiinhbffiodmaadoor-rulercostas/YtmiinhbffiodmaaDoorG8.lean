/- The search for the shortest, as the program does it; nothing of the program. -/
import Derived.Test.YtmiinhbffiodmaaDoorRuG
namespace Go.Proofs.YtmiinhbffiodmaaDoor

theorem fs_congr {α : Type} {F G : Nat → Option α} : ∀ {m : Nat}, (∀ d, d < m → F d = G d) → (List.range m).findSome? F = (List.range m).findSome? G
  | 0, _ => rfl
  | m + 1, h => by
    rw [List.range_succ, List.findSome?_append, List.findSome?_append, fs_congr (m := m) fun d hd => h d (by omega)]
    simp [List.findSome?_cons, h m (by omega)]
/-- Goes on with marks up to a length, the least first. -/
def gS : Nat → Nat → Nat → List Nat → Nat → Option (List Nat)
  | 0, n, _, l, _ => if l.length = n then some l else none
  | f + 1, n, long, l, x0 => if l.length = n then some l else
    (List.range (long + 1 - x0)).findSome? fun d => if golB (l ++ [x0 + d]) then gS f n long (l ++ [x0 + d]) (x0 + d + 1) else none
theorem gS_some : ∀ (f n long : Nat) (l out : List Nat) (x0 : Nat), l.Pairwise (· < ·) → 1 ≤ l.length → l.getD 0 0 = 0 → golB l = true → l.getD (l.length - 1) 0 < x0 → l.getD (l.length - 1) 0 ≤ long → gS f n long l x0 = some out → out.Pairwise (· < ·) ∧ out.getD 0 0 = 0 ∧ golB out = true ∧ out.length = n ∧ out.getD (n - 1) 0 ≤ long := by
  intro f
  induction f with
  | zero =>
    intro n long l out x0 hr h1 h0 hg hx hL h
    unfold gS at h
    split at h
    · rename_i e
      cases h
      exact ⟨hr, h0, hg, e, by rw [← e]; exact hL⟩
    · cases h
  | succ f ih =>
    intro n long l out x0 hr h1 h0 hg hx hL h
    unfold gS at h
    split at h
    · rename_i e
      cases h
      exact ⟨hr, h0, hg, e, by rw [← e]; exact hL⟩
    · obtain ⟨d, hd, h⟩ := List.exists_of_findSome?_eq_some h
      have hd := List.mem_range.1 hd
      split at h
      · refine ih n long _ out (x0 + d + 1) (rise_more hr (by omega)) (by simp) ?_ (by assumption) (by rw [getD_last]; omega) (by rw [getD_last]; omega) h
        rw [List.getD_eq_getElem?_getD, List.getElem?_append_left (by omega), ← List.getD_eq_getElem?_getD]; exact h0
      · cases h
theorem gS_short {n long : Nat} (h1 : 1 ≤ n) (h7 : n ≤ 7) (h : long < bestN n) : gS (n - 1) n long [0] 1 = none := by
  match e : gS (n - 1) n long [0] 1 with
  | none => rfl
  | some out =>
    obtain ⟨a, b, c, d, k⟩ := gS_some _ _ _ _ _ _ (List.pairwise_singleton _ _) (by simp) rfl golB_one (by simp) (by simp) e
    have := best_short a b c (by omega) (by omega)
    rw [d] at this
    omega
/-- Where no ruler of as many marks is shorter, both searches find the same. -/
theorem gS_mk {n long : Nat} (hn : ∀ out : List Nat, out.Pairwise (· < ·) → out.getD 0 0 = 0 → golB out = true → out.length = n → long ≤ out.getD (n - 1) 0) : ∀ (f : Nat) (l : List Nat), l.Pairwise (· < ·) → 1 ≤ l.length → l.getD 0 0 = 0 → golB l = true → l.getD (l.length - 1) 0 ≤ long → gS f n long l (l.getD (l.length - 1) 0 + 1) = mkS f n long l := by
  have hfull : ∀ l : List Nat, l.Pairwise (· < ·) → l.getD 0 0 = 0 → golB l = true → l.getD (l.length - 1) 0 ≤ long → l.length = n → l.getD (n - 1) 0 = long := fun l hr h0 hg hL e => by
    have h1 := hn l hr h0 hg e
    rw [e] at hL
    omega
  intro f
  induction f with
  | zero =>
    intro l hr h1 h0 hg hL
    unfold gS mkS
    split
    · rename_i e
      rw [if_pos (hfull l hr h0 hg hL e)]
    · rfl
  | succ f ih =>
    intro l hr h1 h0 hg hL
    unfold gS mkS
    split
    · rename_i e
      rw [if_pos (hfull l hr h0 hg hL e)]
    · rw [show long + 1 - (l.getD (l.length - 1) 0 + 1) = long - l.getD (l.length - 1) 0 by omega]
      generalize hm : long - l.getD (l.length - 1) 0 = m
      have hb : ∀ d, d < m → (if golB (l ++ [l.getD (l.length - 1) 0 + 1 + d]) then gS f n long (l ++ [l.getD (l.length - 1) 0 + 1 + d]) (l.getD (l.length - 1) 0 + 1 + d + 1) else none) = (if golB (l ++ [l.getD (l.length - 1) 0 + 1 + d]) then mkS f n long (l ++ [l.getD (l.length - 1) 0 + 1 + d]) else none) := fun d hd => by
        split
        · rename_i hg2
          have h := ih (l ++ [l.getD (l.length - 1) 0 + 1 + d]) (rise_more hr (by omega)) (by simp) (by rw [List.getD_eq_getElem?_getD, List.getElem?_append_left (by omega), ← List.getD_eq_getElem?_getD]; exact h0) hg2 (by rw [getD_last]; omega)
          rw [getD_last] at h
          exact h
        · rfl
      exact fs_congr hb
theorem gS_best {n : Nat} (h1 : 1 ≤ n) (h7 : n ≤ 7) : gS (n - 1) n (bestN n) [0] 1 = some (bestL n) := by
  have h := gS_mk (n := n) (long := bestN n) (fun out a b c d => by have := best_short a b c (by omega) (by omega); rwa [d] at this) (n - 1) [0] (List.pairwise_singleton _ _) (by simp) rfl golB_one (by simp)
  have hb := mkS_best ⟨n, by omega⟩ h1
  rw [show ([0] : List Nat).getD (([0] : List Nat).length - 1) 0 + 1 = 1 from rfl] at h
  rw [h]
  exact hb
theorem best_low : ∀ n : Fin 8, 1 ≤ n.val → n.val * (n.val - 1) / 2 ≤ bestN n.val ∧ bestN n.val < 2 ^ n.val := by decide +kernel

end Go.Proofs.YtmiinhbffiodmaaDoor
