/- Rings begun with the greatest of the three. Nothing of the program. -/
import Derived.Test.YtgkfddcmngodgabU3
namespace Go.Proofs.Ytgkfddcmngodgab

def rq (t : Nat → Nat → Bool) (g a b : Nat) : Nat := if (t g a && t a b && t b g) = true then 1 else 0
def rgO (t : Nat → Nat → Bool) (g a k : Nat) : Nat := sumL ((List.range k).map (rq t g a))
def rgI (t : Nat → Nat → Bool) (g k : Nat) : Nat := sumL ((List.range k).map fun a => rgO t g a g)
def rgP (t : Nat → Nat → Bool) (k : Nat) : Nat := sumL ((List.range k).map fun g => rgI t g g)
theorem sum_more (f : Nat → Nat) (k : Nat) : sumL ((List.range (k + 1)).map f) = sumL ((List.range k).map f) + f k := by
  rw [List.range_succ, List.map_append, sumL_append]; simp [sumL]
theorem rgO_more (t : Nat → Nat → Bool) (g a k : Nat) : rgO t g a (k + 1) = rgO t g a k + rq t g a k := sum_more _ _
theorem rgI_more (t : Nat → Nat → Bool) (g k : Nat) : rgI t g (k + 1) = rgI t g k + rgO t g k g := sum_more _ _
theorem rgP_more (t : Nat → Nat → Bool) (k : Nat) : rgP t (k + 1) = rgP t k + rgI t k k := sum_more _ _
theorem rq_le (t : Nat → Nat → Bool) (g a b : Nat) : rq t g a b ≤ 1 := by unfold rq; split <;> omega
theorem sum_cong {f g : Nat → Nat} {k : Nat} (h : ∀ x, x < k → f x = g x) : sumL ((List.range k).map f) = sumL ((List.range k).map g) := by
  congr 1
  exact List.map_congr_left fun x hx => h x (List.mem_range.1 hx)
/-- Sums over pairs. -/
def p2S (n : Nat) (F : Nat → Nat → Nat) : Nat := sumL ((List.range n).map fun a => sumL ((List.range' (a + 1) (n - (a + 1))).map (F a)))
theorem p2S_next (n : Nat) (F : Nat → Nat → Nat) : p2S (n + 1) F = p2S n F + sumL ((List.range n).map fun a => F a n) := by
  unfold p2S
  rw [sum_more, show n + 1 - (n + 1) = 0 by omega, ← sum_add]
  show _ + sumL [] = _
  rw [show sumL [] = 0 from rfl, Nat.add_zero]
  refine sum_cong fun a ha => ?_
  rw [show n + 1 - (a + 1) = (n - (a + 1)) + 1 by omega, List.range'_1_concat, List.map_append, sumL_append, show a + 1 + (n - (a + 1)) = n by omega]
  simp [sumL]
theorem p2S_congr {n : Nat} {F G : Nat → Nat → Nat} (h : ∀ a b, a < b → b < n → F a b = G a b) : p2S n F = p2S n G := by
  unfold p2S
  refine sum_cong fun a ha => ?_
  congr 1
  refine List.map_congr_left fun b hb => ?_
  rw [List.mem_range'_1] at hb
  exact h a b (by omega) (by omega)
theorem sq_pairs (f : Nat → Nat → Nat) : ∀ n, sumL ((List.range n).map fun a => sumL ((List.range n).map (f a))) = p2S n (fun a b => f a b + f b a) + sumL ((List.range n).map fun a => f a a)
  | 0 => rfl
  | n + 1 => by
    rw [p2S_next, sum_more, sum_more (fun a => f a a), sum_more (f n)]
    have e : sumL ((List.range n).map fun a => sumL ((List.range (n + 1)).map (f a))) = sumL ((List.range n).map fun a => sumL ((List.range n).map (f a))) + sumL ((List.range n).map fun a => f a n) := by
      rw [← sum_add]
      exact sum_cong fun a _ => sum_more _ _
    rw [e, sq_pairs f n, sum_add]
    omega
theorem rA_next (n : Nat) (t : Nat → Nat → Bool) : rA (n + 1) t (n + 1) = rA n t n + p2S n fun a b => rT t a b n := by
  have hB : ∀ a k, a + 1 + k ≤ n → rB (n + 1) t a k = rB n t a k + sumL ((List.range' (a + 1) k).map fun b => rT t a b n) := by
    intro a k
    induction k with
    | zero => intro _; rfl
    | succ k ih =>
      intro h
      rw [rB_more, rB_more, ih (by omega), List.range'_1_concat, List.map_append, sumL_append, show n + 1 - (a + 1 + k + 1) = n - (a + 1 + k + 1) + 1 by omega, rC_more, show a + 1 + k + 1 + (n - (a + 1 + k + 1)) = n by omega]
      simp only [List.map_cons, List.map_nil, sumL_cons]
      show _ = _ + (_ + (_ + 0))
      omega
  rw [rA_more, show n + 1 - (n + 1) = 0 by omega, show rB (n + 1) t n 0 = 0 from rfl, Nat.add_zero]
  unfold rA p2S
  rw [← sum_add]
  refine sum_cong fun a ha => ?_
  rw [show n + 1 - (a + 1) = n - (a + 1) + 1 by omega, rB_more, hB a (n - (a + 1)) (by omega), show n + 1 - (a + 1 + (n - (a + 1)) + 1) = 0 by omega]
  rfl
theorem rings_is {t : Nat → Nat → Bool} : ∀ {n : Nat}, Trn (List.range n) t → (∀ a, a < n → t a a = false) → rgP t n = rA n t n
  | 0, _, _ => rfl
  | n + 1, hT, hI => by
    have hT' : Trn (List.range n) t := fun p q hp hq hne => hT p q (by simp only [List.mem_range] at hp ⊢; omega) (by simp only [List.mem_range] at hq ⊢; omega) hne
    rw [rgP_more, rA_next, rings_is hT' fun a ha => hI a (by omega)]
    congr 1
    show sumL ((List.range n).map fun a => sumL ((List.range n).map (rq t n a))) = _
    rw [sq_pairs]
    have h0 : sumL ((List.range n).map fun a => rq t n a a) = 0 := by
      have : (List.range n).map (fun a => rq t n a a) = (List.range n).map fun _ => 0 := List.map_congr_left fun a ha => by
        unfold rq
        rw [hI a (by have := List.mem_range.1 ha; omega)]
        simp
      rw [this]
      have : ∀ l : List Nat, sumL (l.map fun _ => 0) = 0 := fun l => by
        induction l with
        | nil => rfl
        | cons x l ih => rw [List.map_cons, sumL_cons, ih]
      exact this _
    rw [h0, Nat.add_zero]
    refine p2S_congr fun a b hab hb => ?_
    have h1 : t b a = !t a b := hT.tr (by omega) (by omega) (by omega)
    have h2 : t n a = !t a n := hT.tr (by omega) (by omega) (by omega)
    have h3 : t n b = !t b n := hT.tr (by omega) (by omega) (by omega)
    unfold rq rT
    rw [h1, h2, h3]
    cases t a b <;> cases t a n <;> cases t b n <;> rfl
end Go.Proofs.Ytgkfddcmngodgab
