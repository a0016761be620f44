/- Lists that go on: how many, the first. Nothing of the program. -/
import Derived.Test.YtgkfddcmngodgaaTrL
import Derived.Test.YtgkfddcmngodgaaTrF
/- Paths counted. Nothing of the program. -/
namespace Go.Proofs.Ytgkfddcmngodgaa

/-- Sums over picks. -/
def sN : List Nat → (Nat → List Nat → Nat) → Nat
  | [], _ => 0
  | a :: S, f => f a S + sN S fun b R => f b (a :: R)
theorem sN_par : ∀ (S : List Nat) (f : Nat → List Nat → Nat), (sN S f % 2 == 1) = sP S fun b R => f b R % 2 == 1
  | [], _ => rfl
  | a :: S, f => by
    have h := sN_par S fun b R => f b (a :: R)
    show ((f a S + sN S fun b R => f b (a :: R)) % 2 == 1) = ((f a S % 2 == 1) ^^ sP S fun b R => f b (a :: R) % 2 == 1)
    rw [← h]
    rcases Nat.mod_two_eq_zero_or_one (f a S) with e1 | e1 <;> rcases Nat.mod_two_eq_zero_or_one (sN S fun b R => f b (a :: R)) with e2 | e2 <;> rw [Nat.add_mod, e1, e2] <;> rfl
theorem erase_cons_ne {a b : Nat} {S : List Nat} (h : a ≠ b) : (a :: S).erase b = a :: S.erase b := by
  rw [List.erase_cons]; simp [h]
/-- A list without doubles: a sum over its members. -/
theorem sN_sum : ∀ {S : List Nat} (f : Nat → List Nat → Nat), S.Nodup → sN S f = sumL (S.map fun b => f b (S.erase b))
  | [], _, _ => rfl
  | a :: S, f, h => by
    obtain ⟨h1, h2⟩ := List.nodup_cons.1 h
    have hS := sN_sum (fun b R => f b (a :: R)) h2
    show (f a S + sN S fun b R => f b (a :: R)) = _
    rw [hS, List.map_cons, sumL_cons, List.erase_cons_head]
    congr 2
    refine List.map_congr_left fun b hb => ?_
    have hne : a ≠ b := fun e => h1 (by rw [e]; exact hb)
    rw [erase_cons_ne hne]
/-- Paths that go on from a through all of R. -/
def cnN (d : Nat → Nat → Bool) : Nat → List Nat → Nat → Nat
  | 0, _, _ => 1
  | k + 1, R, a => sN R fun b R' => if d a b then cnN d k R' b else 0
theorem cnN_par (d : Nat → Nat → Bool) : ∀ (k : Nat) (R : List Nat) (a : Nat), (cnN d k R a % 2 == 1) = pfN d k R a
  | 0, _, _ => rfl
  | k + 1, R, a => by
    unfold cnN pfN
    rw [sN_par]
    congr 1
    funext b R'
    cases d a b with
    | false => rfl
    | true => simpa using cnN_par d k R' b
/-- All paths. -/
def cH (d : Nat → Nat → Bool) (S : List Nat) : Nat := sN S fun a R => cnN d R.length R a
theorem cH_par (d : Nat → Nat → Bool) (S : List Nat) : (cH d S % 2 == 1) = pH d S := by
  unfold cH pH
  rw [sN_par]
  congr 1
  funext a R
  exact cnN_par d R.length R a
theorem odd_paths {n : Nat} (hn : 1 ≤ n) {t : Nat → Nat → Bool} (h : Trn (List.range n) t) : cH t (List.range n) % 2 = 1 := by
  have := cH_par t (List.range n)
  rw [redei hn h] at this
  simpa using this
end Go.Proofs.Ytgkfddcmngodgaa

namespace Go.Proofs.Ytgkfddcmngodgaa

def wk (n : Nat) (t : Nat → Nat → Bool) (rg : Bool) : Nat → List Nat → Nat × List Nat
  | 0, L => if rg && decide (1 < n) && !t (L.getD (n - 1) 0) (L.getD 0 0) then (0, []) else (1, L)
  | k + 1, L => (List.range n).foldl (fun p b => if L.contains b || (decide (0 < L.length) && !t (L.getD (L.length - 1) 0) b) then p else (p.1 + (wk n t rg k (L ++ [b])).1, if p.1 == 0 && decide (0 < (wk n t rg k (L ++ [b])).1) then (wk n t rg k (L ++ [b])).2 else p.2)) (0, [])
/-- The first of them looked at. -/
def wkT (n : Nat) (t : Nat → Nat → Bool) (rg : Bool) (k : Nat) (L : List Nat) (j : Nat) : Nat × List Nat :=
  (List.range j).foldl (fun p b => if L.contains b || (decide (0 < L.length) && !t (L.getD (L.length - 1) 0) b) then p else (p.1 + (wk n t rg k (L ++ [b])).1, if p.1 == 0 && decide (0 < (wk n t rg k (L ++ [b])).1) then (wk n t rg k (L ++ [b])).2 else p.2)) (0, [])
section
variable {n : Nat} {t : Nat → Nat → Bool} {rg : Bool} {k : Nat} {L : List Nat}
theorem wk_succ : wk n t rg (k + 1) L = wkT n t rg k L n := rfl
theorem wkT_zero : wkT n t rg k L 0 = (0, []) := rfl
theorem wkT_step (b : Nat) : wkT n t rg k L (b + 1) = if L.contains b || (decide (0 < L.length) && !t (L.getD (L.length - 1) 0) b) then wkT n t rg k L b else ((wkT n t rg k L b).1 + (wk n t rg k (L ++ [b])).1, if (wkT n t rg k L b).1 == 0 && decide (0 < (wk n t rg k (L ++ [b])).1) then (wk n t rg k (L ++ [b])).2 else (wkT n t rg k L b).2) := by
  conv => lhs; unfold wkT
  rw [List.range_succ, List.foldl_append]
  rfl
theorem wkT_in {b : Nat} (h : L.contains b = true) : wkT n t rg k L (b + 1) = wkT n t rg k L b := by rw [wkT_step, h]; rfl
theorem wkT_not {b : Nat} (h : 0 < L.length) (h2 : t (L.getD (L.length - 1) 0) b = false) : wkT n t rg k L (b + 1) = wkT n t rg k L b := by
  rw [wkT_step, h2, if_pos]
  simp [h]
theorem wkT_on {b : Nat} (h : L.contains b = false) (h2 : L.length = 0 ∨ t (L.getD (L.length - 1) 0) b = true) : wkT n t rg k L (b + 1) = ((wkT n t rg k L b).1 + (wk n t rg k (L ++ [b])).1, if (wkT n t rg k L b).1 == 0 && decide (0 < (wk n t rg k (L ++ [b])).1) then (wk n t rg k (L ++ [b])).2 else (wkT n t rg k L b).2) := by
  rw [wkT_step, h, if_neg]
  rcases h2 with h2 | h2
  · simp [h2]
  · simp [-List.getD_eq_getElem?_getD, h2]
theorem wkT_le (hk : ∀ b, (wk n t rg k (L ++ [b])).1 ≤ 9 ^ k) : ∀ j, (wkT n t rg k L j).1 ≤ j * 9 ^ k
  | 0 => by simp [wkT]
  | j + 1 => by
    have h := wkT_le hk j
    have h2 := hk j
    rw [wkT_step, Nat.succ_mul]
    split
    · omega
    · simp only
      omega
end
theorem wk_le {n : Nat} (hn : n ≤ 9) {t : Nat → Nat → Bool} {rg : Bool} : ∀ (k : Nat) (L : List Nat), (wk n t rg k L).1 ≤ 9 ^ k
  | 0, L => by
    unfold wk
    split <;> simp
  | k + 1, L => by
    rw [wk_succ]
    have := wkT_le (t := t) (rg := rg) (k := k) (L := L) (fun b => wk_le hn k (L ++ [b])) n
    have h : n * 9 ^ k ≤ 9 * 9 ^ k := Nat.mul_le_mul_right _ hn
    rw [Nat.pow_succ]
    omega
end Go.Proofs.Ytgkfddcmngodgaa
