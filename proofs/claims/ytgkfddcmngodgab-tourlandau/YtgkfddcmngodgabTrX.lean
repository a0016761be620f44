/- Lists that go on: how many, the first. Nothing of the program. -/
import Derived.Test.YtgkfddcmngodgabTrW
import Derived.Test.YtgkfddcmngodgabTrF
namespace Go.Proofs.Ytgkfddcmngodgab

def wk (n : Nat) (t : Nat → Nat → Bool) (rg : Bool) : Nat → List Nat → Nat × List Nat
  | 0, L => if rg && decide (1 < n) && !t (L.getD (n - 1) 0) (L.getD 0 0) then (0, []) else (1, L)
  | k + 1, L => (List.range n).foldl (fun p b => if L.contains b || (decide (0 < L.length) && !t (L.getD (L.length - 1) 0) b) then p else (p.1 + (wk n t rg k (L ++ [b])).1, if p.1 == 0 && decide (0 < (wk n t rg k (L ++ [b])).1) then (wk n t rg k (L ++ [b])).2 else p.2)) (0, [])
/-- The first of them looked at. -/
def wkT (n : Nat) (t : Nat → Nat → Bool) (rg : Bool) (k : Nat) (L : List Nat) (j : Nat) : Nat × List Nat :=
  (List.range j).foldl (fun p b => if L.contains b || (decide (0 < L.length) && !t (L.getD (L.length - 1) 0) b) then p else (p.1 + (wk n t rg k (L ++ [b])).1, if p.1 == 0 && decide (0 < (wk n t rg k (L ++ [b])).1) then (wk n t rg k (L ++ [b])).2 else p.2)) (0, [])
section
variable {n : Nat} {t : Nat → Nat → Bool} {rg : Bool} {k : Nat} {L : List Nat}
theorem wk_succ : wk n t rg (k + 1) L = wkT n t rg k L n := rfl
theorem wkT_zero : wkT n t rg k L 0 = (0, []) := rfl
theorem wkT_step (b : Nat) : wkT n t rg k L (b + 1) = if L.contains b || (decide (0 < L.length) && !t (L.getD (L.length - 1) 0) b) then wkT n t rg k L b else ((wkT n t rg k L b).1 + (wk n t rg k (L ++ [b])).1, if (wkT n t rg k L b).1 == 0 && decide (0 < (wk n t rg k (L ++ [b])).1) then (wk n t rg k (L ++ [b])).2 else (wkT n t rg k L b).2) := by
  conv => lhs; unfold wkT
  rw [List.range_succ, List.foldl_append]
  rfl
theorem wkT_in {b : Nat} (h : L.contains b = true) : wkT n t rg k L (b + 1) = wkT n t rg k L b := by rw [wkT_step, h]; rfl
theorem wkT_not {b : Nat} (h : 0 < L.length) (h2 : t (L.getD (L.length - 1) 0) b = false) : wkT n t rg k L (b + 1) = wkT n t rg k L b := by
  rw [wkT_step, h2, if_pos]
  simp [h]
theorem wkT_on {b : Nat} (h : L.contains b = false) (h2 : L.length = 0 ∨ t (L.getD (L.length - 1) 0) b = true) : wkT n t rg k L (b + 1) = ((wkT n t rg k L b).1 + (wk n t rg k (L ++ [b])).1, if (wkT n t rg k L b).1 == 0 && decide (0 < (wk n t rg k (L ++ [b])).1) then (wk n t rg k (L ++ [b])).2 else (wkT n t rg k L b).2) := by
  rw [wkT_step, h, if_neg]
  rcases h2 with h2 | h2
  · simp [h2]
  · simp [-List.getD_eq_getElem?_getD, h2]
theorem wkT_le (hk : ∀ b, (wk n t rg k (L ++ [b])).1 ≤ 9 ^ k) : ∀ j, (wkT n t rg k L j).1 ≤ j * 9 ^ k
  | 0 => by simp [wkT]
  | j + 1 => by
    have h := wkT_le hk j
    have h2 := hk j
    rw [wkT_step, Nat.succ_mul]
    split
    · omega
    · simp only
      omega
end
theorem wk_le {n : Nat} (hn : n ≤ 9) {t : Nat → Nat → Bool} {rg : Bool} : ∀ (k : Nat) (L : List Nat), (wk n t rg k L).1 ≤ 9 ^ k
  | 0, L => by
    unfold wk
    split <;> simp
  | k + 1, L => by
    rw [wk_succ]
    have := wkT_le (t := t) (rg := rg) (k := k) (L := L) (fun b => wk_le hn k (L ++ [b])) n
    have h : n * 9 ^ k ≤ 9 * 9 ^ k := Nat.mul_le_mul_right _ hn
    rw [Nat.pow_succ]
    omega
end Go.Proofs.Ytgkfddcmngodgab
