/- Vectors of k numbers, and what multiplying by x does to them modulo a monic polynomial: polynomials act, and commute. -/
import Derived.Test.YtagpbkcnjogbgabDoorPureF
namespace Go.Proofs.YtagpbkcnjogbgabDoor.Fd

/-- Congruence of two vectors of k numbers, modulo p. -/
def Cg (p : Int) (k : Nat) (u v : Nat → Int) : Prop := ∀ t, t < k → p ∣ (u t - v t)
theorem Cg.refl (p : Int) (k : Nat) (u : Nat → Int) : Cg p k u u := fun t _ => by rw [Int.sub_self]; exact Int.dvd_zero p
theorem Cg.symm {p : Int} {k : Nat} {u v : Nat → Int} (h : Cg p k u v) : Cg p k v u := fun t ht => by
  have := Int.dvd_neg.2 (h t ht)
  rwa [Int.neg_sub] at this
theorem Cg.trans {p : Int} {k : Nat} {u v x : Nat → Int} (h : Cg p k u v) (h' : Cg p k v x) : Cg p k u x := fun t ht => by
  have := Int.dvd_add (h t ht) (h' t ht)
  rwa [show u t - v t + (v t - x t) = u t - x t by omega] at this
theorem Cg.of_eq {p : Int} {k : Nat} {u v : Nat → Int} (h : ∀ t, t < k → u t = v t) : Cg p k u v := fun t ht => by rw [h t ht, Int.sub_self]; exact Int.dvd_zero p
def vadd (u v : Nat → Int) : Nat → Int := fun t => u t + v t
def vmul (c : Int) (u : Nat → Int) : Nat → Int := fun t => c * u t
def vzero : Nat → Int := fun _ => 0
theorem Cg.add {p : Int} {k : Nat} {u v u' v' : Nat → Int} (h : Cg p k u v) (h' : Cg p k u' v') : Cg p k (vadd u u') (vadd v v') := fun t ht => by
  have := Int.dvd_add (h t ht) (h' t ht)
  rwa [show u t - v t + (u' t - v' t) = vadd u u' t - vadd v v' t by unfold vadd; omega] at this
theorem Cg.mul {p : Int} {k : Nat} {u v : Nat → Int} {c d : Int} (h : Cg p k u v) (hc : p ∣ (c - d)) : Cg p k (vmul c u) (vmul d v) := fun t ht => by
  have h1 : p ∣ c * (u t - v t) := Int.dvd_mul_of_dvd_right (h t ht)
  have h2 : p ∣ (c - d) * v t := Int.dvd_mul_of_dvd_left hc
  have := Int.dvd_add h1 h2
  rwa [show c * (u t - v t) + (c - d) * v t = vmul c u t - vmul d v t by unfold vmul; rw [Int.mul_sub, Int.sub_mul]; omega] at this

/-- Multiplying by x. -/
def vX (m : Nat → Int) (k : Nat) (v : Nat → Int) : Nat → Int := fun t => (if t = 0 then 0 else v (t - 1)) - v (k - 1) * m t
theorem vX_add (m : Nat → Int) (k : Nat) (u v : Nat → Int) : vX m k (vadd u v) = vadd (vX m k u) (vX m k v) := by
  funext t
  unfold vX vadd
  by_cases h : t = 0
  · simp only [h, if_true]; rw [Int.add_mul]; omega
  · simp only [h, if_false]; rw [Int.add_mul]; omega
theorem vX_mul (m : Nat → Int) (k : Nat) (c : Int) (u : Nat → Int) : vX m k (vmul c u) = vmul c (vX m k u) := by
  funext t
  unfold vX vmul
  by_cases h : t = 0
  · simp only [h, if_true]; rw [Int.mul_sub, Int.mul_zero, Int.mul_assoc]
  · simp only [h, if_false]; rw [Int.mul_sub, Int.mul_assoc]
theorem Cg.vX {p : Int} {k : Nat} (m : Nat → Int) {u v : Nat → Int} (hk : 1 ≤ k) (h : Cg p k u v) : Cg p k (vX m k u) (vX m k v) := fun t ht => by
  have h1 : p ∣ (u (k - 1) - v (k - 1)) * m t := Int.dvd_mul_of_dvd_left (h (k - 1) (by omega))
  unfold Go.Proofs.YtagpbkcnjogbgabDoor.Fd.vX
  by_cases e : t = 0
  · simp only [e, if_true]
    have := Int.dvd_neg.2 h1
    rw [e] at this
    rwa [show -((u (k - 1) - v (k - 1)) * m 0) = 0 - u (k - 1) * m 0 - (0 - v (k - 1) * m 0) by rw [Int.sub_mul]; omega] at this
  · simp only [e, if_false]
    have := Int.dvd_sub (h (t - 1) (by omega)) h1
    rwa [show u (t - 1) - v (t - 1) - (u (k - 1) - v (k - 1)) * m t = u (t - 1) - u (k - 1) * m t - (v (t - 1) - v (k - 1) * m t) by rw [Int.sub_mul]; omega] at this
/-- Multiplying by x, n times. -/
def vXn (m : Nat → Int) (k : Nat) : Nat → (Nat → Int) → (Nat → Int)
  | 0, v => v
  | n + 1, v => vX m k (vXn m k n v)
theorem vXn_add (m : Nat → Int) (k : Nat) (u v : Nat → Int) : ∀ n, vXn m k n (vadd u v) = vadd (vXn m k n u) (vXn m k n v)
  | 0 => rfl
  | n + 1 => by show vX m k (vXn m k n (vadd u v)) = _; rw [vXn_add m k u v n, vX_add]; rfl
theorem vXn_mul (m : Nat → Int) (k : Nat) (c : Int) (u : Nat → Int) : ∀ n, vXn m k n (vmul c u) = vmul c (vXn m k n u)
  | 0 => rfl
  | n + 1 => by show vX m k (vXn m k n (vmul c u)) = _; rw [vXn_mul m k c u n, vX_mul]; rfl
theorem vXn_plus (m : Nat → Int) (k a : Nat) (v : Nat → Int) : ∀ n, vXn m k (n + a) v = vXn m k n (vXn m k a v)
  | 0 => by rw [Nat.zero_add]; rfl
  | n + 1 => by
    rw [show n + 1 + a = (n + a) + 1 by omega]
    show vX m k (vXn m k (n + a) v) = vX m k (vXn m k n (vXn m k a v))
    rw [vXn_plus m k a v n]
theorem Cg.vXn {p : Int} {k : Nat} (m : Nat → Int) {u v : Nat → Int} (hk : 1 ≤ k) (h : Cg p k u v) : ∀ n, Cg p k (vXn m k n u) (vXn m k n v)
  | 0 => h
  | n + 1 => Cg.vX m hk (Cg.vXn m hk h n)
/-- What the polynomial of the first n numbers of a row does to a vector. -/
def act (m : Nat → Int) (k : Nat) (a : Nat → Int) : Nat → (Nat → Int) → (Nat → Int)
  | 0, _ => vzero
  | n + 1, v => vadd (act m k a n v) (vmul (a n) (vXn m k n v))
theorem vX_zero (m : Nat → Int) (k : Nat) : vX m k vzero = vzero := by
  funext t; unfold vX vzero
  by_cases h : t = 0
  · simp [h]
  · simp [h]
theorem act_X (m : Nat → Int) (k : Nat) (a : Nat → Int) (v : Nat → Int) : ∀ n, act m k a n (vX m k v) = vX m k (act m k a n v)
  | 0 => (vX_zero m k).symm
  | n + 1 => by
    show vadd (act m k a n (vX m k v)) (vmul (a n) (vXn m k n (vX m k v))) = vX m k (vadd (act m k a n v) (vmul (a n) (vXn m k n v)))
    rw [act_X m k a v n, vX_add, vX_mul]
    congr 2
    show vXn m k n (vXn m k 1 v) = vX m k (vXn m k n v)
    rw [← vXn_plus]
    rfl
theorem act_Xn (m : Nat → Int) (k : Nat) (a : Nat → Int) (n : Nat) (v : Nat → Int) : ∀ j, act m k a n (vXn m k j v) = vXn m k j (act m k a n v)
  | 0 => rfl
  | j + 1 => by show act m k a n (vX m k (vXn m k j v)) = _; rw [act_X, act_Xn m k a n v j]; rfl
theorem vadd_four (a b c d : Nat → Int) : vadd (vadd a b) (vadd c d) = vadd (vadd a c) (vadd b d) := by funext t; unfold vadd; omega
theorem vmul_add (c : Int) (u v : Nat → Int) : vmul c (vadd u v) = vadd (vmul c u) (vmul c v) := by funext t; unfold vmul vadd; rw [Int.mul_add]
theorem vmul_vmul (c d : Int) (u : Nat → Int) : vmul c (vmul d u) = vmul d (vmul c u) := by funext t; unfold vmul; rw [← Int.mul_assoc, ← Int.mul_assoc, Int.mul_comm c d]
theorem act_add (m : Nat → Int) (k : Nat) (a : Nat → Int) (u v : Nat → Int) : ∀ n, act m k a n (vadd u v) = vadd (act m k a n u) (act m k a n v)
  | 0 => by funext t; rfl
  | n + 1 => by
    show vadd (act m k a n (vadd u v)) (vmul (a n) (vXn m k n (vadd u v))) = _
    rw [act_add m k a u v n, vXn_add, vmul_add, vadd_four]; rfl
theorem act_mul (m : Nat → Int) (k : Nat) (a : Nat → Int) (c : Int) (v : Nat → Int) : ∀ n, act m k a n (vmul c v) = vmul c (act m k a n v)
  | 0 => by funext t; show (0 : Int) = c * 0; rw [Int.mul_zero]
  | n + 1 => by
    show vadd (act m k a n (vmul c v)) (vmul (a n) (vXn m k n (vmul c v))) = _
    rw [act_mul m k a c v n, vXn_mul, vmul_vmul, ← vmul_add]; rfl
theorem act_zero (m : Nat → Int) (k : Nat) (a : Nat → Int) : ∀ n, act m k a n vzero = vzero
  | n => by
    have h := act_mul m k a 0 vzero n
    have e : ∀ u : Nat → Int, vmul 0 u = vzero := fun u => by funext t; show 0 * u t = 0; rw [Int.zero_mul]
    rw [e, e] at h; exact h
/-- Polynomials commute. -/
theorem act_comm (m : Nat → Int) (k : Nat) (a b : Nat → Int) (n : Nat) (v : Nat → Int) : ∀ j, act m k a n (act m k b j v) = act m k b j (act m k a n v)
  | 0 => act_zero m k a n
  | j + 1 => by
    show act m k a n (vadd (act m k b j v) (vmul (b j) (vXn m k j v))) = _
    rw [act_add, act_comm m k a b n v j, act_mul, act_Xn]; rfl
theorem Cg.act {p : Int} {k : Nat} (m : Nat → Int) (hk : 1 ≤ k) {a b u v : Nat → Int} (n : Nat) (ha : ∀ t, t < n → p ∣ (a t - b t)) (h : Cg p k u v) : Cg p k (act m k a n u) (act m k b n v) := by
  induction n with
  | zero => exact Cg.refl _ _ _
  | succ n ih => exact (ih (fun t ht => ha t (by omega))).add ((Cg.vXn m hk h n).mul (ha n (by omega)))
/-- The i-th unit. -/
def unitV (i : Nat) : Nat → Int := fun t => if t = i then 1 else 0
theorem vX_unit (m : Nat → Int) (k i : Nat) (hi : i + 1 < k) (t : Nat) : vX m k (unitV i) t = unitV (i + 1) t := by
  unfold vX unitV
  rw [if_neg (show ¬ k - 1 = i by omega), Int.zero_mul, Int.sub_zero]
  by_cases h : t = 0
  · subst h; simp
  · rw [if_neg h]
    by_cases e : t = i + 1
    · rw [if_pos e, if_pos (by omega)]
    · rw [if_neg e, if_neg (by omega)]
theorem vXn_unit (m : Nat → Int) (k : Nat) (hk : 1 ≤ k) : ∀ i, i < k → vXn m k i (unitV 0) = unitV i
  | 0, _ => rfl
  | i + 1, h => by
    show vX m k (vXn m k i (unitV 0)) = _
    rw [vXn_unit m k hk i (by omega)]
    funext t; exact vX_unit m k i h t
/-- A vector is what its polynomial does to 1. -/
theorem act_unit (m : Nat → Int) (k : Nat) (hk : 1 ≤ k) (a : Nat → Int) : ∀ n, n ≤ k → ∀ t, act m k a n (unitV 0) t = if t < n then a t else 0
  | 0, _, t => by rw [if_neg (by omega)]; rfl
  | n + 1, h, t => by
    show act m k a n (unitV 0) t + a n * vXn m k n (unitV 0) t = _
    rw [act_unit m k hk a n (by omega) t, vXn_unit m k hk n (by omega)]
    unfold unitV
    by_cases e : t = n
    · subst e; rw [if_neg (by omega), if_pos rfl, if_pos (by omega)]; omega
    · rw [if_neg e]
      by_cases h2 : t < n
      · rw [if_pos h2, if_pos (by omega)]; omega
      · rw [if_neg h2, if_neg (by omega)]; omega

end Go.Proofs.YtagpbkcnjogbgabDoor.Fd
