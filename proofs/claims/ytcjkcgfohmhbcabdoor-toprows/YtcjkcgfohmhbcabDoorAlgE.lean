/- A field has an element whose powers are all but 0; powers; inverses. -/
import Derived.Test.YtcjkcgfohmhbcabDoorPureF
/- Elements are numbers: their digits are vectors; sums and products of them keep the laws of a ring. -/
/- Vectors of k numbers, and what multiplying by x does to them modulo a monic polynomial: polynomials act, and commute. -/
namespace Go.Proofs.YtcjkcgfohmhbcabDoor.Fd

/-- Congruence of two vectors of k numbers, modulo p. -/
def Cg (p : Int) (k : Nat) (u v : Nat → Int) : Prop := ∀ t, t < k → p ∣ (u t - v t)
theorem Cg.refl (p : Int) (k : Nat) (u : Nat → Int) : Cg p k u u := fun t _ => by rw [Int.sub_self]; exact Int.dvd_zero p
theorem Cg.symm {p : Int} {k : Nat} {u v : Nat → Int} (h : Cg p k u v) : Cg p k v u := fun t ht => by
  have := Int.dvd_neg.2 (h t ht)
  rwa [Int.neg_sub] at this
theorem Cg.trans {p : Int} {k : Nat} {u v x : Nat → Int} (h : Cg p k u v) (h' : Cg p k v x) : Cg p k u x := fun t ht => by
  have := Int.dvd_add (h t ht) (h' t ht)
  rwa [show u t - v t + (v t - x t) = u t - x t by omega] at this
theorem Cg.of_eq {p : Int} {k : Nat} {u v : Nat → Int} (h : ∀ t, t < k → u t = v t) : Cg p k u v := fun t ht => by rw [h t ht, Int.sub_self]; exact Int.dvd_zero p
def vadd (u v : Nat → Int) : Nat → Int := fun t => u t + v t
def vmul (c : Int) (u : Nat → Int) : Nat → Int := fun t => c * u t
def vzero : Nat → Int := fun _ => 0
theorem Cg.add {p : Int} {k : Nat} {u v u' v' : Nat → Int} (h : Cg p k u v) (h' : Cg p k u' v') : Cg p k (vadd u u') (vadd v v') := fun t ht => by
  have := Int.dvd_add (h t ht) (h' t ht)
  rwa [show u t - v t + (u' t - v' t) = vadd u u' t - vadd v v' t by unfold vadd; omega] at this
theorem Cg.mul {p : Int} {k : Nat} {u v : Nat → Int} {c d : Int} (h : Cg p k u v) (hc : p ∣ (c - d)) : Cg p k (vmul c u) (vmul d v) := fun t ht => by
  have h1 : p ∣ c * (u t - v t) := Int.dvd_mul_of_dvd_right (h t ht)
  have h2 : p ∣ (c - d) * v t := Int.dvd_mul_of_dvd_left hc
  have := Int.dvd_add h1 h2
  rwa [show c * (u t - v t) + (c - d) * v t = vmul c u t - vmul d v t by unfold vmul; rw [Int.mul_sub, Int.sub_mul]; omega] at this

/-- Multiplying by x. -/
def vX (m : Nat → Int) (k : Nat) (v : Nat → Int) : Nat → Int := fun t => (if t = 0 then 0 else v (t - 1)) - v (k - 1) * m t
theorem vX_add (m : Nat → Int) (k : Nat) (u v : Nat → Int) : vX m k (vadd u v) = vadd (vX m k u) (vX m k v) := by
  funext t
  unfold vX vadd
  by_cases h : t = 0
  · simp only [h, if_true]; rw [Int.add_mul]; omega
  · simp only [h, if_false]; rw [Int.add_mul]; omega
theorem vX_mul (m : Nat → Int) (k : Nat) (c : Int) (u : Nat → Int) : vX m k (vmul c u) = vmul c (vX m k u) := by
  funext t
  unfold vX vmul
  by_cases h : t = 0
  · simp only [h, if_true]; rw [Int.mul_sub, Int.mul_zero, Int.mul_assoc]
  · simp only [h, if_false]; rw [Int.mul_sub, Int.mul_assoc]
theorem Cg.vX {p : Int} {k : Nat} (m : Nat → Int) {u v : Nat → Int} (hk : 1 ≤ k) (h : Cg p k u v) : Cg p k (vX m k u) (vX m k v) := fun t ht => by
  have h1 : p ∣ (u (k - 1) - v (k - 1)) * m t := Int.dvd_mul_of_dvd_left (h (k - 1) (by omega))
  unfold Go.Proofs.YtcjkcgfohmhbcabDoor.Fd.vX
  by_cases e : t = 0
  · simp only [e, if_true]
    have := Int.dvd_neg.2 h1
    rw [e] at this
    rwa [show -((u (k - 1) - v (k - 1)) * m 0) = 0 - u (k - 1) * m 0 - (0 - v (k - 1) * m 0) by rw [Int.sub_mul]; omega] at this
  · simp only [e, if_false]
    have := Int.dvd_sub (h (t - 1) (by omega)) h1
    rwa [show u (t - 1) - v (t - 1) - (u (k - 1) - v (k - 1)) * m t = u (t - 1) - u (k - 1) * m t - (v (t - 1) - v (k - 1) * m t) by rw [Int.sub_mul]; omega] at this
/-- Multiplying by x, n times. -/
def vXn (m : Nat → Int) (k : Nat) : Nat → (Nat → Int) → (Nat → Int)
  | 0, v => v
  | n + 1, v => vX m k (vXn m k n v)
theorem vXn_add (m : Nat → Int) (k : Nat) (u v : Nat → Int) : ∀ n, vXn m k n (vadd u v) = vadd (vXn m k n u) (vXn m k n v)
  | 0 => rfl
  | n + 1 => by show vX m k (vXn m k n (vadd u v)) = _; rw [vXn_add m k u v n, vX_add]; rfl
theorem vXn_mul (m : Nat → Int) (k : Nat) (c : Int) (u : Nat → Int) : ∀ n, vXn m k n (vmul c u) = vmul c (vXn m k n u)
  | 0 => rfl
  | n + 1 => by show vX m k (vXn m k n (vmul c u)) = _; rw [vXn_mul m k c u n, vX_mul]; rfl
theorem vXn_plus (m : Nat → Int) (k a : Nat) (v : Nat → Int) : ∀ n, vXn m k (n + a) v = vXn m k n (vXn m k a v)
  | 0 => by rw [Nat.zero_add]; rfl
  | n + 1 => by
    rw [show n + 1 + a = (n + a) + 1 by omega]
    show vX m k (vXn m k (n + a) v) = vX m k (vXn m k n (vXn m k a v))
    rw [vXn_plus m k a v n]
theorem Cg.vXn {p : Int} {k : Nat} (m : Nat → Int) {u v : Nat → Int} (hk : 1 ≤ k) (h : Cg p k u v) : ∀ n, Cg p k (vXn m k n u) (vXn m k n v)
  | 0 => h
  | n + 1 => Cg.vX m hk (Cg.vXn m hk h n)
/-- What the polynomial of the first n numbers of a row does to a vector. -/
def act (m : Nat → Int) (k : Nat) (a : Nat → Int) : Nat → (Nat → Int) → (Nat → Int)
  | 0, _ => vzero
  | n + 1, v => vadd (act m k a n v) (vmul (a n) (vXn m k n v))
theorem vX_zero (m : Nat → Int) (k : Nat) : vX m k vzero = vzero := by
  funext t; unfold vX vzero
  by_cases h : t = 0
  · simp [h]
  · simp [h]
theorem act_X (m : Nat → Int) (k : Nat) (a : Nat → Int) (v : Nat → Int) : ∀ n, act m k a n (vX m k v) = vX m k (act m k a n v)
  | 0 => (vX_zero m k).symm
  | n + 1 => by
    show vadd (act m k a n (vX m k v)) (vmul (a n) (vXn m k n (vX m k v))) = vX m k (vadd (act m k a n v) (vmul (a n) (vXn m k n v)))
    rw [act_X m k a v n, vX_add, vX_mul]
    congr 2
    show vXn m k n (vXn m k 1 v) = vX m k (vXn m k n v)
    rw [← vXn_plus]
    rfl
theorem act_Xn (m : Nat → Int) (k : Nat) (a : Nat → Int) (n : Nat) (v : Nat → Int) : ∀ j, act m k a n (vXn m k j v) = vXn m k j (act m k a n v)
  | 0 => rfl
  | j + 1 => by show act m k a n (vX m k (vXn m k j v)) = _; rw [act_X, act_Xn m k a n v j]; rfl
theorem vadd_four (a b c d : Nat → Int) : vadd (vadd a b) (vadd c d) = vadd (vadd a c) (vadd b d) := by funext t; unfold vadd; omega
theorem vmul_add (c : Int) (u v : Nat → Int) : vmul c (vadd u v) = vadd (vmul c u) (vmul c v) := by funext t; unfold vmul vadd; rw [Int.mul_add]
theorem vmul_vmul (c d : Int) (u : Nat → Int) : vmul c (vmul d u) = vmul d (vmul c u) := by funext t; unfold vmul; rw [← Int.mul_assoc, ← Int.mul_assoc, Int.mul_comm c d]
theorem act_add (m : Nat → Int) (k : Nat) (a : Nat → Int) (u v : Nat → Int) : ∀ n, act m k a n (vadd u v) = vadd (act m k a n u) (act m k a n v)
  | 0 => by funext t; rfl
  | n + 1 => by
    show vadd (act m k a n (vadd u v)) (vmul (a n) (vXn m k n (vadd u v))) = _
    rw [act_add m k a u v n, vXn_add, vmul_add, vadd_four]; rfl
theorem act_mul (m : Nat → Int) (k : Nat) (a : Nat → Int) (c : Int) (v : Nat → Int) : ∀ n, act m k a n (vmul c v) = vmul c (act m k a n v)
  | 0 => by funext t; show (0 : Int) = c * 0; rw [Int.mul_zero]
  | n + 1 => by
    show vadd (act m k a n (vmul c v)) (vmul (a n) (vXn m k n (vmul c v))) = _
    rw [act_mul m k a c v n, vXn_mul, vmul_vmul, ← vmul_add]; rfl
theorem act_zero (m : Nat → Int) (k : Nat) (a : Nat → Int) : ∀ n, act m k a n vzero = vzero
  | n => by
    have h := act_mul m k a 0 vzero n
    have e : ∀ u : Nat → Int, vmul 0 u = vzero := fun u => by funext t; show 0 * u t = 0; rw [Int.zero_mul]
    rw [e, e] at h; exact h
/-- Polynomials commute. -/
theorem act_comm (m : Nat → Int) (k : Nat) (a b : Nat → Int) (n : Nat) (v : Nat → Int) : ∀ j, act m k a n (act m k b j v) = act m k b j (act m k a n v)
  | 0 => act_zero m k a n
  | j + 1 => by
    show act m k a n (vadd (act m k b j v) (vmul (b j) (vXn m k j v))) = _
    rw [act_add, act_comm m k a b n v j, act_mul, act_Xn]; rfl
theorem Cg.act {p : Int} {k : Nat} (m : Nat → Int) (hk : 1 ≤ k) {a b u v : Nat → Int} (n : Nat) (ha : ∀ t, t < n → p ∣ (a t - b t)) (h : Cg p k u v) : Cg p k (act m k a n u) (act m k b n v) := by
  induction n with
  | zero => exact Cg.refl _ _ _
  | succ n ih => exact (ih (fun t ht => ha t (by omega))).add ((Cg.vXn m hk h n).mul (ha n (by omega)))
/-- The i-th unit. -/
def unitV (i : Nat) : Nat → Int := fun t => if t = i then 1 else 0
theorem vX_unit (m : Nat → Int) (k i : Nat) (hi : i + 1 < k) (t : Nat) : vX m k (unitV i) t = unitV (i + 1) t := by
  unfold vX unitV
  rw [if_neg (show ¬ k - 1 = i by omega), Int.zero_mul, Int.sub_zero]
  by_cases h : t = 0
  · subst h; simp
  · rw [if_neg h]
    by_cases e : t = i + 1
    · rw [if_pos e, if_pos (by omega)]
    · rw [if_neg e, if_neg (by omega)]
theorem vXn_unit (m : Nat → Int) (k : Nat) (hk : 1 ≤ k) : ∀ i, i < k → vXn m k i (unitV 0) = unitV i
  | 0, _ => rfl
  | i + 1, h => by
    show vX m k (vXn m k i (unitV 0)) = _
    rw [vXn_unit m k hk i (by omega)]
    funext t; exact vX_unit m k i h t
/-- A vector is what its polynomial does to 1. -/
theorem act_unit (m : Nat → Int) (k : Nat) (hk : 1 ≤ k) (a : Nat → Int) : ∀ n, n ≤ k → ∀ t, act m k a n (unitV 0) t = if t < n then a t else 0
  | 0, _, t => by rw [if_neg (by omega)]; rfl
  | n + 1, h, t => by
    show act m k a n (unitV 0) t + a n * vXn m k n (unitV 0) t = _
    rw [act_unit m k hk a n (by omega) t, vXn_unit m k hk n (by omega)]
    unfold unitV
    by_cases e : t = n
    · subst e; rw [if_neg (by omega), if_pos rfl, if_pos (by omega)]; omega
    · rw [if_neg e]
      by_cases h2 : t < n
      · rw [if_pos h2, if_pos (by omega)]; omega
      · rw [if_neg h2, if_neg (by omega)]; omega

end Go.Proofs.YtcjkcgfohmhbcabDoor.Fd

/- The program's product of two elements is what the one's polynomial does to the other. -/
namespace Go.Proofs.YtcjkcgfohmhbcabDoor.Fd

theorem vadd_zero (u : Nat → Int) : vadd u vzero = u := by funext t; show u t + 0 = u t; omega
theorem vzero_add (u : Nat → Int) : vadd vzero u = u := by funext t; show 0 + u t = u t; omega
theorem vmul_zero' (c : Int) : vmul c vzero = vzero := by funext t; show c * 0 = 0; rw [Int.mul_zero]
theorem zero_vmul (u : Nat → Int) : vmul 0 u = vzero := by funext t; show 0 * u t = 0; rw [Int.zero_mul]
theorem vmul_coadd (c d : Int) (u : Nat → Int) : vmul (c + d) u = vadd (vmul c u) (vmul d u) := by funext t; unfold vmul vadd; rw [Int.add_mul]
theorem vmul_comul (c d : Int) (u : Nat → Int) : vmul (c * d) u = vmul c (vmul d u) := by funext t; unfold vmul; rw [Int.mul_assoc]
theorem act_coadd (m : Nat → Int) (k : Nat) (f g : Nat → Int) (v : Nat → Int) : ∀ n, act m k (vadd f g) n v = vadd (act m k f n v) (act m k g n v)
  | 0 => (vadd_zero vzero).symm
  | n + 1 => by
    show vadd (act m k (vadd f g) n v) (vmul (f n + g n) (vXn m k n v)) = _
    rw [act_coadd m k f g v n, vmul_coadd, vadd_four]; rfl
theorem act_comul (m : Nat → Int) (k : Nat) (c : Int) (f : Nat → Int) (v : Nat → Int) : ∀ n, act m k (vmul c f) n v = vmul c (act m k f n v)
  | 0 => (vmul_zero' c).symm
  | n + 1 => by
    show vadd (act m k (vmul c f) n v) (vmul (c * f n) (vXn m k n v)) = _
    rw [act_comul m k c f v n, vmul_comul, ← vmul_add]; rfl
theorem act_cozero (m : Nat → Int) (k : Nat) (f : Nat → Int) (v : Nat → Int) : ∀ n, (∀ t, t < n → f t = 0) → act m k f n v = vzero
  | 0, _ => rfl
  | n + 1, h => by
    show vadd (act m k f n v) (vmul (f n) (vXn m k n v)) = _
    rw [act_cozero m k f v n (fun t ht => h t (by omega)), h n (by omega), zero_vmul, vadd_zero]
theorem act_cut (m : Nat → Int) (k : Nat) (f : Nat → Int) (v : Nat → Int) (n : Nat) : ∀ j, (∀ t, n ≤ t → t < n + j → f t = 0) → act m k f (n + j) v = act m k f n v
  | 0, _ => rfl
  | j + 1, h => by
    show vadd (act m k f (n + j) v) (vmul (f (n + j)) (vXn m k (n + j) v)) = _
    rw [act_cut m k f v n j (fun t h1 h2 => h t h1 (by omega)), h (n + j) (by omega) (by omega), zero_vmul, vadd_zero]
/-- j numbers of a row, moved by i places. -/
def shiftV (i j : Nat) (b : Nat → Int) : Nat → Int := fun t => if i ≤ t ∧ t < i + j then b (t - i) else 0
theorem act_single (m : Nat → Int) (k : Nat) (i : Nat) (c : Int) (v : Nat → Int) (n : Nat) (h : i < n) : act m k (fun t => if t = i then c else 0) n v = vmul c (vXn m k i v) := by
  obtain ⟨j, rfl⟩ : ∃ j, n = (i + 1) + j := ⟨n - (i + 1), by omega⟩
  rw [act_cut m k _ v (i + 1) j (fun t h1 _ => if_neg (by omega))]
  show vadd (act m k _ i v) (vmul (if i = i then c else 0) (vXn m k i v)) = _
  rw [act_cozero m k _ v i (fun t ht => if_neg (by omega)), vzero_add, if_pos rfl]
theorem act_shift (m : Nat → Int) (k : Nat) (i : Nat) (b : Nat → Int) (v : Nat → Int) (n : Nat) : ∀ j, i + j ≤ n → act m k (shiftV i j b) n v = vXn m k i (act m k b j v)
  | 0, _ => by
    rw [act_cozero m k (shiftV i 0 b) v n (fun t _ => by unfold shiftV; exact if_neg (by omega))]
    have h := vXn_mul m k 0 vzero i
    rw [zero_vmul, zero_vmul] at h
    exact h.symm
  | j + 1, h => by
    have e : shiftV i (j + 1) b = vadd (shiftV i j b) (fun t => if t = i + j then b j else 0) := by
      funext t
      show (if i ≤ t ∧ t < i + (j + 1) then b (t - i) else 0) = (if i ≤ t ∧ t < i + j then b (t - i) else 0) + (if t = i + j then b j else 0)
      by_cases e1 : t = i + j
      · subst e1
        rw [if_pos (by omega), if_neg (by omega), if_pos rfl, show i + j - i = j by omega]; omega
      · rw [if_neg e1]
        by_cases e2 : i ≤ t ∧ t < i + j
        · rw [if_pos e2, if_pos (by omega)]; omega
        · rw [if_neg e2, if_neg (by omega)]; omega
    rw [e, act_coadd, act_shift m k i b v n j (by omega), act_single m k (i + j) (b j) v n (by omega), Nat.add_comm i j]
    rw [show vXn m k (j + i) v = vXn m k i (vXn m k j v) by rw [Nat.add_comm, vXn_plus]]
    show _ = vXn m k i (vadd (act m k b j v) (vmul (b j) (vXn m k j v)))
    rw [vXn_add, vXn_mul]

/-- The polynomial itself does nothing. -/
theorem act_self (m : Nat → Int) (k : Nat) (hk : 1 ≤ k) (hm : m k = 1) (t : Nat) (ht : t < k) : act m k m (k + 1) (unitV 0) t = 0 := by
  show act m k m k (unitV 0) t + m k * vXn m k k (unitV 0) t = 0
  rw [act_unit m k hk m k (Nat.le_refl _) t, if_pos ht, hm, Int.one_mul]
  obtain ⟨j, rfl⟩ : ∃ j, k = j + 1 := ⟨k - 1, by omega⟩
  show m t + vX m (j + 1) (vXn m (j + 1) j (unitV 0)) t = 0
  rw [vXn_unit m (j + 1) hk j (by omega)]
  unfold vX unitV
  rw [if_pos (show j + 1 - 1 = j by omega)]
  by_cases e : t = 0
  · rw [if_pos e]; omega
  · rw [if_neg e, if_neg (show ¬ t - 1 = j by omega)]; omega
theorem emod_dvd_sub (x p : Int) : p ∣ (x % p - x) := by
  have h : x % p - x = p * (-(x / p)) := by
    have := Int.emod_add_mul_ediv x p
    rw [Int.mul_neg]; omega
  rw [h]; exact Int.dvd_mul_right p _
theorem rd_act (m : Nat → Int) (k : Nat) (p : Int) (hk : 1 ≤ k) (hm : m k = 1) (f : Nat → Int) (i n : Nat) (hi : k ≤ i) (hn : i < n) : Cg p k (act m k (rd f m k p i) n (unitV 0)) (act m k f n (unitV 0)) := by
  have h1 : Cg p k (act m k (rd f m k p i) n (unitV 0)) (act m k (vadd f (vmul (-(f i)) (shiftV (i - k) (k + 1) m))) n (unitV 0)) := by
    refine Cg.act m hk n (fun t _ => ?_) (Cg.refl _ _ _)
    unfold rd vadd vmul shiftV
    by_cases e : i - k ≤ t ∧ t ≤ i
    · rw [if_pos e, if_pos (by omega)]
      have := emod_dvd_sub (f t - f i * m (t - (i - k))) p
      rwa [show f t - f i * m (t - (i - k)) = f t + -f i * m (t - (i - k)) by rw [Int.neg_mul]; omega] at this ⊢
    · rw [if_neg e, if_neg (by omega), Int.mul_zero, Int.add_zero, Int.sub_self]; exact Int.dvd_zero p
  refine h1.trans ?_
  rw [act_coadd, act_comul, act_shift m k (i - k) m (unitV 0) n (k + 1) (by omega)]
  have h2 : Cg p k (vXn m k (i - k) (act m k m (k + 1) (unitV 0))) (vXn m k (i - k) vzero) := Cg.vXn m hk (Cg.of_eq fun t ht => act_self m k hk hm t ht) (i - k)
  have h3 : vXn m k (i - k) vzero = vzero := by
    have h := vXn_mul m k 0 vzero (i - k)
    rw [zero_vmul, zero_vmul] at h; exact h
  rw [h3] at h2
  have h4 := (Cg.refl p k (act m k f n (unitV 0))).add (h2.mul (c := -(f i)) (d := -(f i)) (by rw [Int.sub_self]; exact Int.dvd_zero p))
  rwa [vmul_zero', vadd_zero] at h4
theorem redN_act (m : Nat → Int) (k : Nat) (p : Int) (hk : 1 ≤ k) (hm : m k = 1) (N : Nat) : ∀ (n : Nat) (f : Nat → Int), k + n ≤ N → Cg p k (act m k (redN m k p n f) N (unitV 0)) (act m k f N (unitV 0))
  | 0, _, _ => Cg.refl _ _ _
  | n + 1, f, h => by
    show Cg p k (act m k (redN m k p n (rd f m k p (k + n))) N (unitV 0)) _
    exact (redN_act m k p hk hm N n _ (by omega)).trans (rd_act m k p hk hm f (k + n) N (by omega) (by omega))
theorem mulRow_act (m : Nat → Int) (k : Nat) (p : Int) (hk : 1 ≤ k) (f : Nat → Int) (x : Int) (b : Nat → Int) (i j n : Nat) (h : i + j ≤ n) : Cg p k (act m k (mulRow f x b p i j) n (unitV 0)) (vadd (act m k f n (unitV 0)) (vmul x (vXn m k i (act m k b j (unitV 0))))) := by
  have h1 : Cg p k (act m k (mulRow f x b p i j) n (unitV 0)) (act m k (vadd f (vmul x (shiftV i j b))) n (unitV 0)) := by
    refine Cg.act m hk n (fun t _ => ?_) (Cg.refl _ _ _)
    unfold mulRow vadd vmul shiftV
    by_cases e : i ≤ t ∧ t < i + j
    · rw [if_pos e, if_pos e]; exact emod_dvd_sub _ p
    · rw [if_neg e, if_neg e, Int.mul_zero, Int.add_zero, Int.sub_self]; exact Int.dvd_zero p
  rw [act_coadd, act_comul, act_shift m k i b (unitV 0) n j h] at h1
  exact h1
theorem mulN_act (m : Nat → Int) (k : Nat) (p : Int) (hk : 1 ≤ k) (a b : Nat → Int) (j n : Nat) : ∀ i, i + j ≤ n + 1 → Cg p k (act m k (mulN a b p j i) n (unitV 0)) (act m k a i (act m k b j (unitV 0)))
  | 0, _ => Cg.of_eq fun t _ => by rw [act_cozero m k (mulN a b p j 0) _ n (fun t _ => rfl)]; rfl
  | i + 1, h => by
    show Cg p k (act m k (mulRow (mulN a b p j i) (a i) b p i j) n (unitV 0)) (vadd (act m k a i (act m k b j (unitV 0))) (vmul (a i) (vXn m k i (act m k b j (unitV 0)))))
    exact (mulRow_act m k p hk _ _ _ i j n (by omega)).trans ((mulN_act m k p hk a b j n i (by omega)).add (Cg.refl _ _ _))
/-- THE PRODUCT: what is left of the product of two rows is what the one does to the other. -/
theorem prod_act (m : Nat → Int) (k : Nat) (p : Int) (hk : 1 ≤ k) (hm : m k = 1) (a b : Nat → Int) : Cg p k (redN m k p k (mulN a b p k k)) (act m k a k b) := by
  have h1 := redN_act m k p hk hm (k + k) k (mulN a b p k k) (Nat.le_refl _)
  have h2 := mulN_act m k p hk a b k (k + k) k (by omega)
  have h3 := h1.trans h2
  rw [act_cut m k _ (unitV 0) k k (fun t h1 h2 => redN_zero hm k _ t h1 h2)] at h3
  have h4 : Cg p k (redN m k p k (mulN a b p k k)) (act m k (redN m k p k (mulN a b p k k)) k (unitV 0)) := Cg.of_eq fun t ht => by rw [act_unit m k hk _ k (Nat.le_refl _) t, if_pos ht]
  have h5 : Cg p k (act m k b k (unitV 0)) b := Cg.of_eq fun t ht => by rw [act_unit m k hk b k (Nat.le_refl _) t, if_pos ht]
  exact (h4.trans h3).trans (Cg.act m hk k (fun t _ => by rw [Int.sub_self]; exact Int.dvd_zero p) h5)

end Go.Proofs.YtcjkcgfohmhbcabDoor.Fd

namespace Go.Proofs.YtcjkcgfohmhbcabDoor.Fd

theorem hor_dig {f : Nat → Int} {p : Int} {k : Nat} (hp : 2 ≤ p) (hf : inP p f) : ∀ n, n ≤ k → ∀ t, t < n → hor f p k n / p ^ t % p = f (k - n + t)
  | 0, _, t, h => absurd h (by omega)
  | n + 1, hn, t, h => by
    have hb := hf (k - 1 - n)
    unfold hor
    cases t with
    | zero =>
      rw [Int.pow_zero, Int.ediv_one, Int.add_comm, Int.add_mul_emod_self_right, Int.emod_eq_of_lt hb.1 hb.2]
      congr 1; omega
    | succ t =>
      rw [Int.pow_succ, Int.mul_comm (p ^ t) p, ← Int.ediv_ediv_of_nonneg (by omega)]
      have e : (hor f p k n * p + f (k - 1 - n)) / p = hor f p k n := by
        rw [Int.add_comm, Int.add_mul_ediv_right _ _ (by omega), Int.ediv_eq_zero_of_lt hb.1 hb.2, Int.zero_add]
      rw [e, hor_dig hp hf n (by omega) t (by omega)]
      congr 1; omega
theorem digF_hor {f : Nat → Int} {P K : Nat} (hP : 2 ≤ P) (hf : inP P f) (t : Nat) (ht : t < K) : digF (hor f P K K).toNat P t = f t := by
  have h := hor_dig (k := K) (show (2 : Int) ≤ P by omega) hf K (Nat.le_refl _) t ht
  have h0 := (hor_bd (k := K) (show (2 : Int) ≤ P by omega) hf K).1
  unfold digF
  rw [Int.natCast_emod, Int.natCast_ediv, Int.natCast_pow, Int.toNat_of_nonneg h0, h]
  congr 1; omega
theorem hor_digF {a P K : Nat} (hP : 2 ≤ P) (ha : a < P ^ K) : ∀ n, n ≤ K → hor (digF a P) P K n = ((a / P ^ (K - n) : Nat) : Int)
  | 0, _ => by rw [Nat.sub_zero, Nat.div_eq_of_lt ha]; rfl
  | n + 1, hn => by
    unfold hor
    rw [hor_digF hP ha n (by omega)]
    unfold digF
    rw [show K - n = (K - (n + 1)) + 1 by omega, div_succ, show K - 1 - n = K - (n + 1) by omega]
    have := Nat.div_add_mod (a / P ^ (K - (n + 1))) P
    rw [Nat.mul_comm] at this
    omega
theorem digF_inj {a b P K : Nat} (hP : 2 ≤ P) (ha : a < P ^ K) (hb : b < P ^ K) (h : ∀ t, t < K → digF a P t = digF b P t) : a = b := by
  have h1 := hor_digF hP ha K (Nat.le_refl _)
  have h2 := hor_digF hP hb K (Nat.le_refl _)
  rw [hor_congr h K (Nat.le_refl _), h2] at h1
  simp at h1
  omega
theorem eq_of_dvd {x y p : Int} (hx : 0 ≤ x ∧ x < p) (hy : 0 ≤ y ∧ y < p) (h : p ∣ (x - y)) : x = y := by
  have h1 := (Int.emod_emod_of_dvd x (Int.dvd_refl p)).symm
  have h2 : x % p = y % p := Int.emod_eq_emod_iff_emod_sub_eq_zero.2 (Int.emod_eq_zero_of_dvd h)
  rw [Int.emod_eq_of_lt hx.1 hx.2, Int.emod_eq_of_lt hy.1 hy.2] at h2
  exact h2

/-- What is asked of a field for its sums and products to be those of a ring. -/
structure Ring1 (P K : Nat) (m : Nat → Int) : Prop where
  two : 2 ≤ P
  one : 1 ≤ K
  top : m K = 1
  low : inP P m
/-- Sum and product of two elements. -/
def addQ (P K : Nat) (a b : Nat) : Nat := (hor (plusF (digF a P) (digF b P) P) P K K).toNat
def mulQ (P K : Nat) (m : Nat → Int) (a b : Nat) : Nat := (hor (redN m K P K (mulN (digF a P) (digF b P) P K K)) P K K).toNat
section
variable {P K : Nat} {m : Nat → Int}
theorem hor_lt (hP : 2 ≤ P) {f : Nat → Int} (hf : inP P f) : (hor f P K K).toNat < P ^ K := by
  obtain ⟨h0, h1⟩ := hor_bd (k := K) (show (2 : Int) ≤ P by omega) hf K
  have e : (((P ^ K : Nat)) : Int) = (P : Int) ^ K := Int.natCast_pow P K
  omega
theorem addQ_lt (hR : Ring1 P K m) (a b : Nat) : addQ P K a b < P ^ K := hor_lt hR.two (plusF_in _ _ _ (by have := hR.two; omega))
theorem mulQ_in (hR : Ring1 P K m) (a b : Nat) : inP P (redN m K P K (mulN (digF a P) (digF b P) P K K)) := redN_in (by have := hR.two; omega) K _ (mulN_in (by have := hR.two; omega) K)
theorem mulQ_lt (hR : Ring1 P K m) (a b : Nat) : mulQ P K m a b < P ^ K := hor_lt hR.two (mulQ_in hR a b)
theorem mulQ_vec (hR : Ring1 P K m) (a b : Nat) : Cg P K (digF (mulQ P K m a b) P) (act m K (digF a P) K (digF b P)) := by
  have h : Cg P K (digF (mulQ P K m a b) P) (redN m K P K (mulN (digF a P) (digF b P) P K K)) := Cg.of_eq fun t ht => by
    unfold mulQ; exact digF_hor hR.two (mulQ_in hR a b) t ht
  exact h.trans (prod_act m K P hR.one hR.top _ _)
theorem vec_inj (hR : Ring1 P K m) {a b : Nat} (ha : a < P ^ K) (hb : b < P ^ K) (h : Cg P K (digF a P) (digF b P)) : a = b :=
  digF_inj hR.two ha hb fun t ht => eq_of_dvd (digF_in a P (by have := hR.two; omega) t) (digF_in b P (by have := hR.two; omega) t) (h t ht)
theorem self_dvd (a : Nat → Int) (p : Int) (n : Nat) : ∀ t, t < n → p ∣ (a t - a t) := fun t _ => by rw [Int.sub_self]; exact Int.dvd_zero p
theorem act_cg (hR : Ring1 P K m) (a : Nat → Int) {u v : Nat → Int} (h : Cg P K u v) : Cg P K (act m K a K u) (act m K a K v) := Cg.act m hR.one K (self_dvd a _ K) h
theorem act_one (hR : Ring1 P K m) (a : Nat → Int) : Cg P K (act m K a K (unitV 0)) a := Cg.of_eq fun t ht => by rw [act_unit m K hR.one a K (Nat.le_refl _) t, if_pos ht]
theorem act_swap (hR : Ring1 P K m) (a b : Nat → Int) : Cg P K (act m K a K b) (act m K b K a) := by
  have h1 := act_cg hR a (act_one hR b).symm
  rw [act_comm] at h1
  exact h1.trans (act_cg hR b (act_one hR a))
theorem digF_zero (P t : Nat) : digF 0 P t = 0 := by unfold digF; simp
theorem mulQ_comm (hR : Ring1 P K m) (a b : Nat) : mulQ P K m a b = mulQ P K m b a :=
  vec_inj hR (mulQ_lt hR a b) (mulQ_lt hR b a) ((mulQ_vec hR a b).trans ((act_swap hR _ _).trans (mulQ_vec hR b a).symm))
theorem mulQ_assoc (hR : Ring1 P K m) (a b c : Nat) : mulQ P K m (mulQ P K m a b) c = mulQ P K m a (mulQ P K m b c) := by
  refine vec_inj hR (mulQ_lt hR _ _) (mulQ_lt hR _ _) ?_
  -- (ab)c = c(ab) = c(a b) = a(c b) = a(b c)
  have h1 : Cg P K (digF (mulQ P K m (mulQ P K m a b) c) P) (act m K (digF c P) K (act m K (digF a P) K (digF b P))) :=
    (mulQ_vec hR _ c).trans ((act_swap hR _ _).trans (act_cg hR _ (mulQ_vec hR a b)))
  rw [act_comm] at h1
  refine h1.trans ?_
  refine Cg.trans (act_cg hR _ ((act_swap hR _ _).trans (mulQ_vec hR b c).symm)) (mulQ_vec hR a _).symm
theorem digF_one (hP : 2 ≤ P) (t : Nat) : digF 1 P t = unitV 0 t := by
  unfold digF unitV
  cases t with
  | zero => rw [Nat.pow_zero, Nat.div_one, Nat.mod_eq_of_lt (by omega)]; rfl
  | succ t =>
    have h : 1 < P ^ (t + 1) := Nat.lt_of_lt_of_le (by omega : 1 < 2 ^ 1) (Nat.le_trans (Nat.pow_le_pow_right (by decide) (by omega : 1 ≤ t + 1)) (Nat.pow_le_pow_left hP (t + 1)))
    rw [Nat.div_eq_of_lt h]; simp
theorem mulQ_one (hR : Ring1 P K m) {a : Nat} (ha : a < P ^ K) : mulQ P K m a 1 = a := by
  refine vec_inj hR (mulQ_lt hR _ _) ha ((mulQ_vec hR a 1).trans ?_)
  have e : digF 1 P = unitV 0 := funext fun t => digF_one hR.two t
  rw [e]; exact act_one hR _
end

end Go.Proofs.YtcjkcgfohmhbcabDoor.Fd

/- Every field has an element whose powers are all but 0: by a table of powers, field by field, which the kernel checks; and every other polynomial has a divisor. -/
namespace Go.Proofs.YtcjkcgfohmhbcabDoor.Fd

/-- s x + c times an element, digit by digit. -/
def stepF (P K n s c v : Nat) : Nat → Int := fun t => ((s : Int) * ((if t = 0 then 0 else digF v P (t - 1)) - digF v P (K - 1) * digF n P t) + c * digF v P t) % P
def stepQ (P K n s c v : Nat) : Nat := (hor (stepF P K n s c v) P K K).toNat
def pwList (f : Nat → Nat) : Nat → Nat → List Nat
  | 0, _ => []
  | i + 1, v => v :: pwList f i (f v)
/-- Of a field: prime, degree, number of its low digits, s, c, and the powers of s x + c. -/
def genTab : List (Nat × Nat × Nat × Nat × Nat × List Nat) := [
  (2, 2, 3, 1, 0, [1, 2, 3]),
  (2, 3, 3, 1, 0, [1, 2, 4, 3, 6, 7, 5]),
  (2, 3, 5, 1, 0, [1, 2, 4, 5, 7, 3, 6]),
  (2, 4, 3, 1, 0, [1, 2, 4, 8, 3, 6, 12, 11, 5, 10, 7, 14, 15, 13, 9]),
  (2, 4, 9, 1, 0, [1, 2, 4, 8, 9, 11, 15, 7, 14, 5, 10, 13, 3, 6, 12]),
  (2, 4, 15, 1, 1, [1, 3, 5, 15, 14, 13, 8, 7, 9, 4, 12, 11, 2, 6, 10]),
  (2, 5, 5, 1, 0, [1, 2, 4, 8, 16, 5, 10, 20, 13, 26, 17, 7, 14, 28, 29, 31, 27, 19, 3, 6, 12, 24, 21, 15, 30, 25, 23, 11, 22, 9, 18]),
  (2, 5, 9, 1, 0, [1, 2, 4, 8, 16, 9, 18, 13, 26, 29, 19, 15, 30, 21, 3, 6, 12, 24, 25, 27, 31, 23, 7, 14, 28, 17, 11, 22, 5, 10, 20]),
  (2, 5, 15, 1, 0, [1, 2, 4, 8, 16, 15, 30, 19, 9, 18, 11, 22, 3, 6, 12, 24, 31, 17, 13, 26, 27, 25, 29, 21, 5, 10, 20, 7, 14, 28, 23]),
  (2, 5, 23, 1, 0, [1, 2, 4, 8, 16, 23, 25, 5, 10, 20, 31, 9, 18, 19, 17, 21, 29, 13, 26, 3, 6, 12, 24, 7, 14, 28, 15, 30, 11, 22, 27]),
  (2, 5, 27, 1, 0, [1, 2, 4, 8, 16, 27, 13, 26, 15, 30, 7, 14, 28, 3, 6, 12, 24, 11, 22, 23, 21, 17, 25, 9, 18, 31, 5, 10, 20, 19, 29]),
  (2, 5, 29, 1, 0, [1, 2, 4, 8, 16, 29, 7, 14, 28, 5, 10, 20, 21, 23, 19, 27, 11, 22, 17, 31, 3, 6, 12, 24, 13, 26, 9, 18, 25, 15, 30]),
  (2, 6, 3, 1, 0, [1, 2, 4, 8, 16, 32, 3, 6, 12, 24, 48, 35, 5, 10, 20, 40, 19, 38, 15, 30, 60, 59, 53, 41, 17, 34, 7, 14, 28, 56, 51, 37, 9, 18, 36, 11, 22, 44, 27, 54, 47, 29, 58, 55, 45, 25, 50, 39, 13, 26, 52, 43, 21, 42, 23, 46, 31, 62, 63, 61, 57, 49, 33]),
  (2, 6, 9, 1, 1, [1, 3, 5, 15, 17, 51, 28, 36, 37, 38, 35, 44, 61, 14, 18, 54, 19, 53, 22, 58, 7, 9, 27, 45, 62, 11, 29, 39, 32, 41, 50, 31, 33, 42, 55, 16, 48, 25, 43, 52, 21, 63, 8, 24, 40, 49, 26, 46, 59, 4, 12, 20, 60, 13, 23, 57, 2, 6, 10, 30, 34, 47, 56]),
  (2, 6, 23, 1, 1, [1, 3, 5, 15, 17, 51, 2, 6, 10, 30, 34, 49, 4, 12, 20, 60, 19, 53, 8, 24, 40, 47, 38, 61, 16, 48, 7, 9, 27, 45, 32, 55, 14, 18, 54, 13, 23, 57, 28, 36, 59, 26, 46, 37, 56, 31, 33, 52, 11, 29, 39, 62, 21, 63, 22, 58, 25, 43, 42, 41, 44, 35, 50]),
  (2, 6, 27, 1, 0, [1, 2, 4, 8, 16, 32, 27, 54, 55, 53, 49, 57, 41, 9, 18, 36, 19, 38, 23, 46, 7, 14, 28, 56, 43, 13, 26, 52, 51, 61, 33, 25, 50, 63, 37, 17, 34, 31, 62, 39, 21, 42, 15, 30, 60, 35, 29, 58, 47, 5, 10, 20, 40, 11, 22, 44, 3, 6, 12, 24, 48, 59, 45]),
  (2, 6, 33, 1, 0, [1, 2, 4, 8, 16, 32, 33, 35, 39, 47, 63, 31, 62, 29, 58, 21, 42, 53, 11, 22, 44, 57, 19, 38, 45, 59, 23, 46, 61, 27, 54, 13, 26, 52, 9, 18, 36, 41, 51, 7, 14, 28, 56, 17, 34, 37, 43, 55, 15, 30, 60, 25, 50, 5, 10, 20, 40, 49, 3, 6, 12, 24, 48]),
  (2, 6, 39, 1, 0, [1, 2, 4, 8, 16, 32, 39, 41, 53, 13, 26, 52, 15, 30, 60, 31, 62, 27, 54, 11, 22, 44, 63, 25, 50, 3, 6, 12, 24, 48, 7, 14, 28, 56, 23, 46, 59, 17, 34, 35, 33, 37, 45, 61, 29, 58, 19, 38, 43, 49, 5, 10, 20, 40, 55, 9, 18, 36, 47, 57, 21, 42, 51]),
  (2, 6, 45, 1, 0, [1, 2, 4, 8, 16, 32, 45, 55, 3, 6, 12, 24, 48, 13, 26, 52, 5, 10, 20, 40, 61, 23, 46, 49, 15, 30, 60, 21, 42, 57, 31, 62, 17, 34, 41, 63, 19, 38, 33, 47, 51, 11, 22, 44, 53, 7, 14, 28, 56, 29, 58, 25, 50, 9, 18, 36, 37, 39, 35, 43, 59, 27, 54]),
  (2, 6, 51, 1, 0, [1, 2, 4, 8, 16, 32, 51, 21, 42, 39, 61, 9, 18, 36, 59, 5, 10, 20, 40, 35, 53, 25, 50, 23, 46, 47, 45, 41, 33, 49, 17, 34, 55, 29, 58, 7, 14, 28, 56, 3, 6, 12, 24, 48, 19, 38, 63, 13, 26, 52, 27, 54, 31, 62, 15, 30, 60, 11, 22, 44, 43, 37, 57]),
  (2, 6, 53, 1, 1, [1, 3, 5, 15, 17, 51, 32, 21, 63, 52, 41, 14, 18, 54, 47, 4, 12, 20, 60, 49, 38, 31, 33, 22, 58, 59, 56, 61, 50, 35, 16, 48, 37, 26, 46, 7, 9, 27, 45, 2, 6, 10, 30, 34, 19, 53, 42, 11, 29, 39, 28, 36, 25, 43, 8, 24, 40, 13, 23, 57, 62, 55, 44]),
  (3, 2, 1, 1, 1, [1, 4, 6, 7, 2, 8, 3, 5]),
  (3, 2, 5, 1, 0, [1, 3, 7, 8, 2, 6, 5, 4]),
  (3, 2, 8, 1, 0, [1, 3, 4, 7, 2, 6, 8, 5]),
  (3, 3, 7, 1, 0, [1, 3, 9, 5, 15, 23, 13, 17, 20, 4, 12, 14, 11, 2, 6, 18, 7, 21, 16, 26, 22, 10, 8, 24, 25, 19]),
  (3, 3, 8, 2, 0, [1, 6, 9, 8, 12, 26, 16, 14, 20, 7, 15, 17, 11, 2, 3, 18, 4, 24, 13, 23, 25, 10, 5, 21, 22, 19]),
  (3, 3, 11, 1, 2, [1, 5, 13, 18, 20, 24, 14, 23, 3, 15, 4, 11, 17, 2, 7, 26, 9, 10, 12, 25, 16, 6, 21, 8, 19, 22]),
  (3, 3, 14, 1, 1, [1, 4, 16, 26, 25, 21, 17, 18, 5, 11, 3, 12, 10, 2, 8, 23, 13, 14, 15, 22, 9, 7, 19, 6, 24, 20]),
  (3, 3, 16, 1, 0, [1, 3, 9, 23, 22, 19, 10, 26, 4, 12, 5, 15, 14, 2, 6, 18, 16, 17, 11, 20, 13, 8, 24, 7, 21, 25]),
  (3, 3, 19, 1, 0, [1, 3, 9, 11, 17, 8, 24, 10, 14, 26, 16, 5, 15, 2, 6, 18, 19, 22, 4, 12, 20, 25, 13, 23, 7, 21]),
  (3, 3, 22, 1, 0, [1, 3, 9, 17, 5, 15, 8, 24, 13, 20, 19, 25, 16, 2, 6, 18, 22, 7, 21, 4, 12, 26, 10, 11, 14, 23]),
  (3, 3, 26, 1, 1, [1, 4, 16, 14, 3, 12, 7, 19, 9, 22, 21, 20, 13, 2, 8, 23, 25, 6, 24, 5, 11, 18, 17, 15, 10, 26]),
  (5, 2, 2, 1, 1, [1, 6, 14, 5, 8, 21, 3, 18, 7, 15, 19, 13, 4, 24, 16, 20, 22, 9, 2, 12, 23, 10, 11, 17]),
  (5, 2, 3, 1, 2, [1, 7, 21, 20, 18, 22, 2, 14, 17, 15, 6, 19, 4, 23, 9, 5, 12, 8, 3, 16, 13, 10, 24, 11]),
  (5, 2, 6, 1, 2, [1, 7, 18, 8, 20, 21, 3, 16, 24, 19, 10, 13, 4, 23, 12, 22, 5, 9, 2, 14, 6, 11, 15, 17]),
  (5, 2, 7, 1, 0, [1, 5, 23, 22, 17, 24, 2, 10, 16, 19, 9, 18, 4, 20, 7, 8, 13, 6, 3, 15, 14, 11, 21, 12]),
  (5, 2, 13, 1, 0, [1, 5, 17, 6, 22, 23, 3, 15, 21, 18, 11, 14, 4, 20, 13, 24, 8, 7, 2, 10, 9, 12, 19, 16]),
  (5, 2, 14, 1, 3, [1, 8, 20, 24, 16, 21, 2, 11, 15, 18, 7, 17, 4, 22, 5, 6, 14, 9, 3, 19, 10, 12, 23, 13]),
  (5, 2, 18, 1, 0, [1, 5, 12, 9, 7, 22, 3, 15, 6, 17, 16, 11, 4, 20, 18, 21, 23, 8, 2, 10, 24, 13, 14, 19]),
  (5, 2, 19, 1, 1, [1, 6, 22, 21, 15, 23, 2, 12, 19, 17, 5, 16, 4, 24, 8, 9, 10, 7, 3, 18, 11, 13, 20, 14]),
  (5, 2, 21, 1, 1, [1, 6, 15, 7, 21, 22, 3, 18, 20, 16, 13, 11, 4, 24, 10, 23, 9, 8, 2, 12, 5, 14, 17, 19]),
  (5, 2, 22, 1, 0, [1, 5, 8, 23, 12, 21, 2, 10, 11, 16, 24, 17, 4, 20, 22, 7, 18, 9, 3, 15, 19, 14, 6, 13]),
  (7, 2, 1, 1, 2, [1, 9, 31, 30, 21, 46, 16, 44, 5, 38, 43, 45, 7, 20, 24, 17, 4, 29, 19, 15, 35, 23, 8, 22, 6, 47, 25, 26, 28, 10, 40, 12, 2, 18, 13, 11, 42, 36, 32, 39, 3, 27, 37, 41, 14, 33, 48, 34]),
  (7, 2, 2, 1, 1, [1, 8, 20, 9, 21, 22, 30, 43, 3, 24, 46, 27, 14, 17, 41, 31, 2, 16, 33, 18, 42, 44, 11, 37, 6, 48, 36, 47, 28, 34, 26, 13, 4, 32, 10, 29, 35, 39, 15, 25, 5, 40, 23, 38, 7, 12, 45, 19]),
  (7, 2, 4, 1, 1, [1, 8, 18, 45, 14, 20, 12, 43, 5, 40, 27, 15, 21, 23, 39, 19, 4, 32, 9, 26, 7, 10, 34, 25, 6, 48, 38, 11, 35, 36, 44, 13, 2, 16, 29, 41, 28, 33, 17, 37, 3, 24, 47, 30, 42, 46, 22, 31]),
  (7, 2, 10, 1, 0, [1, 7, 46, 38, 41, 13, 39, 48, 3, 21, 33, 9, 11, 25, 12, 32, 2, 14, 36, 27, 26, 19, 22, 40, 6, 42, 10, 18, 15, 43, 17, 8, 4, 28, 23, 47, 45, 31, 44, 24, 5, 35, 20, 29, 30, 37, 34, 16]),
  (7, 2, 11, 1, 3, [1, 10, 40, 9, 30, 25, 21, 44, 3, 23, 8, 27, 41, 19, 14, 34, 2, 20, 24, 18, 11, 43, 42, 39, 6, 46, 16, 47, 26, 31, 28, 12, 4, 33, 48, 29, 15, 37, 35, 22, 5, 36, 32, 38, 45, 13, 7, 17]),
  (7, 2, 13, 1, 3, [1, 10, 38, 42, 41, 16, 43, 44, 5, 36, 29, 14, 30, 24, 19, 17, 4, 33, 47, 21, 45, 8, 25, 22, 6, 46, 18, 7, 15, 40, 13, 12, 2, 20, 27, 35, 26, 32, 37, 39, 3, 23, 9, 28, 11, 48, 31, 34]),
  (7, 2, 16, 1, 3, [1, 10, 28, 34, 24, 45, 18, 43, 5, 36, 42, 44, 8, 15, 27, 19, 4, 33, 14, 17, 40, 26, 9, 25, 6, 46, 21, 22, 32, 11, 38, 13, 2, 20, 7, 12, 48, 41, 29, 37, 3, 23, 35, 39, 16, 30, 47, 31]),
  (7, 2, 17, 1, 0, [1, 7, 39, 13, 32, 23, 26, 47, 3, 21, 12, 25, 40, 20, 15, 29, 2, 14, 22, 19, 8, 46, 45, 38, 6, 42, 17, 43, 24, 33, 30, 9, 4, 28, 44, 31, 16, 36, 41, 27, 5, 35, 34, 37, 48, 10, 11, 18]),
  (7, 2, 19, 1, 0, [1, 7, 37, 45, 40, 17, 46, 47, 5, 35, 31, 15, 32, 22, 20, 18, 4, 28, 43, 26, 48, 12, 23, 27, 6, 42, 19, 11, 16, 39, 10, 9, 2, 14, 25, 41, 24, 34, 36, 38, 3, 21, 13, 30, 8, 44, 33, 29]),
  (7, 2, 22, 1, 4, [1, 11, 36, 48, 39, 18, 42, 43, 5, 41, 33, 16, 34, 27, 14, 19, 4, 30, 46, 24, 44, 9, 21, 25, 6, 45, 20, 8, 17, 38, 7, 13, 2, 15, 23, 40, 22, 29, 35, 37, 3, 26, 10, 32, 12, 47, 28, 31]),
  (7, 2, 26, 1, 0, [1, 7, 30, 29, 22, 48, 19, 46, 5, 35, 45, 47, 12, 16, 25, 20, 4, 28, 15, 18, 39, 24, 13, 23, 6, 42, 26, 27, 34, 8, 37, 10, 2, 14, 11, 9, 44, 40, 31, 36, 3, 21, 41, 38, 17, 32, 43, 33]),
  (7, 2, 27, 1, 4, [1, 11, 38, 10, 34, 21, 24, 43, 3, 26, 9, 23, 39, 14, 16, 31, 2, 15, 27, 20, 12, 42, 48, 37, 6, 45, 18, 46, 22, 28, 32, 13, 4, 30, 47, 33, 17, 35, 40, 25, 5, 41, 29, 36, 44, 7, 8, 19]),
  (7, 2, 29, 1, 1, [1, 8, 35, 44, 38, 19, 45, 46, 5, 40, 28, 17, 29, 25, 15, 20, 4, 32, 42, 22, 47, 13, 26, 23, 6, 48, 14, 12, 18, 37, 11, 10, 2, 16, 21, 39, 27, 31, 41, 36, 3, 24, 7, 34, 9, 43, 30, 33]),
  (7, 2, 33, 1, 0, [1, 7, 23, 34, 29, 43, 40, 45, 5, 35, 10, 44, 47, 19, 32, 15, 4, 28, 36, 17, 18, 25, 48, 26, 6, 42, 33, 22, 27, 13, 16, 11, 2, 14, 46, 12, 9, 37, 24, 41, 3, 21, 20, 39, 38, 31, 8, 30]),
  (7, 2, 34, 1, 1, [1, 8, 37, 7, 29, 26, 22, 46, 3, 24, 13, 21, 38, 15, 17, 33, 2, 16, 25, 14, 9, 45, 44, 36, 6, 48, 19, 42, 27, 30, 34, 10, 4, 32, 43, 28, 18, 41, 39, 23, 5, 40, 31, 35, 47, 11, 12, 20]),
  (7, 2, 37, 1, 1, [1, 8, 34, 33, 25, 47, 14, 45, 5, 40, 44, 46, 13, 18, 21, 15, 4, 32, 17, 20, 37, 27, 7, 26, 6, 48, 22, 23, 31, 9, 35, 11, 2, 16, 12, 10, 43, 38, 28, 41, 3, 24, 39, 36, 19, 29, 42, 30]),
  (7, 2, 38, 1, 0, [1, 7, 18, 8, 25, 26, 33, 44, 3, 21, 47, 24, 19, 15, 36, 34, 2, 14, 29, 16, 43, 45, 10, 39, 6, 42, 38, 48, 31, 30, 23, 12, 4, 28, 9, 32, 37, 41, 20, 22, 5, 35, 27, 40, 13, 11, 46, 17]),
  (7, 2, 40, 1, 0, [1, 7, 16, 46, 19, 18, 11, 44, 5, 35, 24, 20, 25, 27, 41, 17, 4, 28, 8, 23, 13, 9, 30, 22, 6, 42, 40, 10, 37, 38, 45, 12, 2, 14, 32, 36, 31, 29, 15, 39, 3, 21, 48, 33, 43, 47, 26, 34]),
  (7, 2, 45, 1, 0, [1, 7, 11, 39, 20, 8, 18, 43, 3, 21, 26, 12, 46, 24, 47, 31, 2, 14, 15, 22, 33, 16, 29, 37, 6, 42, 45, 17, 36, 48, 38, 13, 4, 28, 30, 44, 10, 32, 9, 25, 5, 35, 41, 34, 23, 40, 27, 19]),
  (7, 2, 46, 1, 2, [1, 9, 35, 8, 33, 22, 25, 45, 3, 27, 7, 24, 36, 17, 19, 30, 2, 18, 21, 16, 10, 44, 43, 41, 6, 47, 14, 48, 23, 34, 31, 11, 4, 29, 42, 32, 20, 39, 37, 26, 5, 38, 28, 40, 46, 12, 13, 15]),
  (7, 2, 48, 1, 2, [1, 9, 40, 43, 36, 14, 44, 45, 5, 38, 32, 19, 33, 21, 17, 15, 4, 29, 48, 25, 46, 7, 22, 26, 6, 47, 16, 13, 20, 35, 12, 11, 2, 18, 24, 37, 23, 28, 39, 41, 3, 27, 8, 31, 10, 42, 34, 30]),
  (2, 1, 0, 0, 1, [1]),
  (3, 1, 0, 0, 2, [1, 2]),
  (5, 1, 0, 0, 2, [1, 2, 4, 3]),
  (7, 1, 0, 0, 3, [1, 3, 2, 6, 4, 5]),
  (11, 1, 0, 0, 2, [1, 2, 4, 8, 5, 10, 9, 7, 3, 6]),
  (13, 1, 0, 0, 2, [1, 2, 4, 8, 3, 6, 12, 11, 9, 5, 10, 7]),
  (17, 1, 0, 0, 3, [1, 3, 9, 10, 13, 5, 15, 11, 16, 14, 8, 7, 4, 12, 2, 6]),
  (19, 1, 0, 0, 2, [1, 2, 4, 8, 16, 13, 7, 14, 9, 18, 17, 15, 11, 3, 6, 12, 5, 10]),
  (23, 1, 0, 0, 5, [1, 5, 2, 10, 4, 20, 8, 17, 16, 11, 9, 22, 18, 21, 13, 19, 3, 15, 6, 7, 12, 14]),
  (29, 1, 0, 0, 2, [1, 2, 4, 8, 16, 3, 6, 12, 24, 19, 9, 18, 7, 14, 28, 27, 25, 21, 13, 26, 23, 17, 5, 10, 20, 11, 22, 15]),
  (31, 1, 0, 0, 3, [1, 3, 9, 27, 19, 26, 16, 17, 20, 29, 25, 13, 8, 24, 10, 30, 28, 22, 4, 12, 5, 15, 14, 11, 2, 6, 18, 23, 7, 21]),
  (37, 1, 0, 0, 2, [1, 2, 4, 8, 16, 32, 27, 17, 34, 31, 25, 13, 26, 15, 30, 23, 9, 18, 36, 35, 33, 29, 21, 5, 10, 20, 3, 6, 12, 24, 11, 22, 7, 14, 28, 19]),
  (41, 1, 0, 0, 6, [1, 6, 36, 11, 25, 27, 39, 29, 10, 19, 32, 28, 4, 24, 21, 3, 18, 26, 33, 34, 40, 35, 5, 30, 16, 14, 2, 12, 31, 22, 9, 13, 37, 17, 20, 38, 23, 15, 8, 7]),
  (43, 1, 0, 0, 3, [1, 3, 9, 27, 38, 28, 41, 37, 25, 32, 10, 30, 4, 12, 36, 22, 23, 26, 35, 19, 14, 42, 40, 34, 16, 5, 15, 2, 6, 18, 11, 33, 13, 39, 31, 7, 21, 20, 17, 8, 24, 29]),
  (47, 1, 0, 0, 5, [1, 5, 25, 31, 14, 23, 21, 11, 8, 40, 12, 13, 18, 43, 27, 41, 17, 38, 2, 10, 3, 15, 28, 46, 42, 22, 16, 33, 24, 26, 36, 39, 7, 35, 34, 29, 4, 20, 6, 30, 9, 45, 37, 44, 32, 19]),
  (53, 1, 0, 0, 2, [1, 2, 4, 8, 16, 32, 11, 22, 44, 35, 17, 34, 15, 30, 7, 14, 28, 3, 6, 12, 24, 48, 43, 33, 13, 26, 52, 51, 49, 45, 37, 21, 42, 31, 9, 18, 36, 19, 38, 23, 46, 39, 25, 50, 47, 41, 29, 5, 10, 20, 40, 27]),
  (59, 1, 0, 0, 2, [1, 2, 4, 8, 16, 32, 5, 10, 20, 40, 21, 42, 25, 50, 41, 23, 46, 33, 7, 14, 28, 56, 53, 47, 35, 11, 22, 44, 29, 58, 57, 55, 51, 43, 27, 54, 49, 39, 19, 38, 17, 34, 9, 18, 36, 13, 26, 52, 45, 31, 3, 6, 12, 24, 48, 37, 15, 30]),
  (61, 1, 0, 0, 2, [1, 2, 4, 8, 16, 32, 3, 6, 12, 24, 48, 35, 9, 18, 36, 11, 22, 44, 27, 54, 47, 33, 5, 10, 20, 40, 19, 38, 15, 30, 60, 59, 57, 53, 45, 29, 58, 55, 49, 37, 13, 26, 52, 43, 25, 50, 39, 17, 34, 7, 14, 28, 56, 51, 41, 21, 42, 23, 46, 31])]
/-- Of a polynomial that is a product: prime, degree, number of its low digits, the degree of a divisor and the number of its low digits. -/
def redTab : List (Nat × Nat × Nat × Nat × Nat) := [
  (2, 2, 0, 1, 0),
  (2, 2, 1, 1, 1),
  (2, 2, 2, 1, 0),
  (2, 3, 0, 1, 0),
  (2, 3, 1, 1, 1),
  (2, 3, 2, 1, 0),
  (2, 3, 4, 1, 0),
  (2, 3, 6, 1, 0),
  (2, 3, 7, 1, 1),
  (2, 4, 0, 1, 0),
  (2, 4, 1, 1, 1),
  (2, 4, 2, 1, 0),
  (2, 4, 4, 1, 0),
  (2, 4, 5, 2, 3),
  (2, 4, 6, 1, 0),
  (2, 4, 7, 1, 1),
  (2, 4, 8, 1, 0),
  (2, 4, 10, 1, 0),
  (2, 4, 11, 1, 1),
  (2, 4, 12, 1, 0),
  (2, 4, 13, 1, 1),
  (2, 4, 14, 1, 0),
  (2, 5, 0, 1, 0),
  (2, 5, 1, 1, 1),
  (2, 5, 2, 1, 0),
  (2, 5, 3, 2, 3),
  (2, 5, 4, 1, 0),
  (2, 5, 6, 1, 0),
  (2, 5, 7, 1, 1),
  (2, 5, 8, 1, 0),
  (2, 5, 10, 1, 0),
  (2, 5, 11, 1, 1),
  (2, 5, 12, 1, 0),
  (2, 5, 13, 1, 1),
  (2, 5, 14, 1, 0),
  (2, 5, 16, 1, 0),
  (2, 5, 17, 2, 3),
  (2, 5, 18, 1, 0),
  (2, 5, 19, 1, 1),
  (2, 5, 20, 1, 0),
  (2, 5, 21, 1, 1),
  (2, 5, 22, 1, 0),
  (2, 5, 24, 1, 0),
  (2, 5, 25, 1, 1),
  (2, 5, 26, 1, 0),
  (2, 5, 28, 1, 0),
  (2, 5, 30, 1, 0),
  (2, 5, 31, 1, 1),
  (2, 6, 0, 1, 0),
  (2, 6, 1, 1, 1),
  (2, 6, 2, 1, 0),
  (2, 6, 4, 1, 0),
  (2, 6, 5, 3, 3),
  (2, 6, 6, 1, 0),
  (2, 6, 7, 1, 1),
  (2, 6, 8, 1, 0),
  (2, 6, 10, 1, 0),
  (2, 6, 11, 1, 1),
  (2, 6, 12, 1, 0),
  (2, 6, 13, 1, 1),
  (2, 6, 14, 1, 0),
  (2, 6, 15, 2, 3),
  (2, 6, 16, 1, 0),
  (2, 6, 17, 3, 5),
  (2, 6, 18, 1, 0),
  (2, 6, 19, 1, 1),
  (2, 6, 20, 1, 0),
  (2, 6, 21, 1, 1),
  (2, 6, 22, 1, 0),
  (2, 6, 24, 1, 0),
  (2, 6, 25, 1, 1),
  (2, 6, 26, 1, 0),
  (2, 6, 28, 1, 0),
  (2, 6, 29, 2, 3),
  (2, 6, 30, 1, 0),
  (2, 6, 31, 1, 1),
  (2, 6, 32, 1, 0),
  (2, 6, 34, 1, 0),
  (2, 6, 35, 1, 1),
  (2, 6, 36, 1, 0),
  (2, 6, 37, 1, 1),
  (2, 6, 38, 1, 0),
  (2, 6, 40, 1, 0),
  (2, 6, 41, 1, 1),
  (2, 6, 42, 1, 0),
  (2, 6, 43, 2, 3),
  (2, 6, 44, 1, 0),
  (2, 6, 46, 1, 0),
  (2, 6, 47, 1, 1),
  (2, 6, 48, 1, 0),
  (2, 6, 49, 1, 1),
  (2, 6, 50, 1, 0),
  (2, 6, 52, 1, 0),
  (2, 6, 54, 1, 0),
  (2, 6, 55, 1, 1),
  (2, 6, 56, 1, 0),
  (2, 6, 57, 2, 3),
  (2, 6, 58, 1, 0),
  (2, 6, 59, 1, 1),
  (2, 6, 60, 1, 0),
  (2, 6, 61, 1, 1),
  (2, 6, 62, 1, 0),
  (2, 6, 63, 3, 3),
  (3, 2, 0, 1, 0),
  (3, 2, 2, 1, 1),
  (3, 2, 3, 1, 0),
  (3, 2, 4, 1, 2),
  (3, 2, 6, 1, 0),
  (3, 2, 7, 1, 1),
  (3, 3, 0, 1, 0),
  (3, 3, 1, 1, 1),
  (3, 3, 2, 1, 2),
  (3, 3, 3, 1, 0),
  (3, 3, 4, 1, 2),
  (3, 3, 5, 1, 1),
  (3, 3, 6, 1, 0),
  (3, 3, 9, 1, 0),
  (3, 3, 10, 1, 2),
  (3, 3, 12, 1, 0),
  (3, 3, 13, 1, 1),
  (3, 3, 15, 1, 0),
  (3, 3, 17, 1, 1),
  (3, 3, 18, 1, 0),
  (3, 3, 20, 1, 1),
  (3, 3, 21, 1, 0),
  (3, 3, 23, 1, 2),
  (3, 3, 24, 1, 0),
  (3, 3, 25, 1, 1),
  (5, 2, 0, 1, 0),
  (5, 2, 1, 1, 2),
  (5, 2, 4, 1, 1),
  (5, 2, 5, 1, 0),
  (5, 2, 8, 1, 2),
  (5, 2, 9, 1, 3),
  (5, 2, 10, 1, 0),
  (5, 2, 11, 1, 1),
  (5, 2, 12, 1, 3),
  (5, 2, 15, 1, 0),
  (5, 2, 16, 1, 4),
  (5, 2, 17, 1, 1),
  (5, 2, 20, 1, 0),
  (5, 2, 23, 1, 1),
  (5, 2, 24, 1, 2),
  (7, 2, 0, 1, 0),
  (7, 2, 3, 1, 2),
  (7, 2, 5, 1, 3),
  (7, 2, 6, 1, 1),
  (7, 2, 7, 1, 0),
  (7, 2, 8, 1, 3),
  (7, 2, 9, 1, 4),
  (7, 2, 12, 1, 2),
  (7, 2, 14, 1, 0),
  (7, 2, 15, 1, 1),
  (7, 2, 18, 1, 3),
  (7, 2, 20, 1, 4),
  (7, 2, 21, 1, 0),
  (7, 2, 23, 1, 1),
  (7, 2, 24, 1, 4),
  (7, 2, 25, 1, 5),
  (7, 2, 28, 1, 0),
  (7, 2, 30, 1, 5),
  (7, 2, 31, 1, 1),
  (7, 2, 32, 1, 2),
  (7, 2, 35, 1, 0),
  (7, 2, 36, 1, 6),
  (7, 2, 39, 1, 1),
  (7, 2, 41, 1, 2),
  (7, 2, 42, 1, 0),
  (7, 2, 43, 1, 2),
  (7, 2, 44, 1, 3),
  (7, 2, 47, 1, 1)]
def genChk : Nat × Nat × Nat × Nat × Nat × List Nat → Bool
  | (P, K, n, s, c, L) => (pwList (stepQ P K n s c) (P ^ K) 1 == L ++ [1]) && (List.range (P ^ K - 1)).all (fun a => L.contains (a + 1)) && decide (c < P) && decide (s < P) && (decide (2 ≤ K) || s == 0)
def redChk : Nat × Nat × Nat × Nat × Nat → Bool
  | (P, K, n, d, b) => (List.range (K + 1)).all (fun t => redN (monL (digL b P d)) d P (K + 1 - d) (monL (digL n P K)) t == 0) && decide (1 ≤ d) && decide (2 * d ≤ K) && decide (b < P ^ d)
theorem gen_ok : genTab.all genChk = true := by decide +kernel
theorem red_ok : redTab.all redChk = true := by decide +kernel
def covered (P K n : Nat) : Bool := genTab.any (fun r => r.1 == P && r.2.1 == K && (r.2.2.1 == n || K == 1)) || redTab.any (fun r => r.1 == P && r.2.1 == K && r.2.2.1 == n)
theorem covered_all : (primeTab.all fun p => (List.range 7).all fun K => K == 0 || decide (64 < p.toNat ^ K) || (List.range (p.toNat ^ K)).all fun n => covered p.toNat K n) = true := by decide +kernel

end Go.Proofs.YtcjkcgfohmhbcabDoor.Fd

namespace Go.Proofs.YtcjkcgfohmhbcabDoor.Fd

theorem digF_lin0 {P c s : Nat} (hc : c < P) : digF (c + s * P) P 0 = c := by
  unfold digF
  rw [Nat.pow_zero, Nat.div_one, Nat.add_mul_mod_self_right, Nat.mod_eq_of_lt hc]
theorem digF_lin1 {P c s : Nat} (hP : 2 ≤ P) (hc : c < P) (hs : s < P) : digF (c + s * P) P 1 = s := by
  unfold digF
  rw [Nat.pow_one, Nat.add_mul_div_right _ _ (by omega), Nat.div_eq_of_lt hc, Nat.zero_add, Nat.mod_eq_of_lt hs]
theorem lin_lt {P c s : Nat} (hc : c < P) (hs : s < P) : c + s * P < P ^ 2 := by
  have h : (s + 1) * P ≤ P * P := Nat.mul_le_mul_right P hs
  rw [Nat.add_mul] at h
  rw [Nat.pow_two]; omega
theorem digF_lin2 {P c s : Nat} (hP : 2 ≤ P) (hc : c < P) (hs : s < P) (t : Nat) (ht : 2 ≤ t) : digF (c + s * P) P t = 0 := digF_small (lin_lt hc hs) hP t ht
section
variable {P K : Nat} {m : Nat → Int}
theorem stepF_in (hP : 2 ≤ P) (n s c v : Nat) : inP P (stepF P K n s c v) := fun _ => ⟨Int.emod_nonneg _ (by omega), Int.emod_lt_of_pos _ (by omega)⟩
theorem act_lin (hR : Ring1 P K m) {c s : Nat} (hc : c < P) (hs : s < P) (hK : 2 ≤ K ∨ s = 0) (u : Nat → Int) (t : Nat) : act m K (digF (c + s * P) P) K u t = (s : Int) * vX m K u t + c * u t := by
  have hP := hR.two
  by_cases h1 : K = 1
  · have hs0 : s = 0 := by omega
    subst h1 hs0
    show 0 + digF (c + 0 * P) P 0 * u t = _
    rw [digF_lin0 hc]
    simp
  · have hK1 := hR.one
    obtain ⟨j, rfl⟩ : ∃ j, K = 2 + j := ⟨K - 2, by omega⟩
    rw [act_cut m (2 + j) (digF (c + s * P) P) u 2 j (fun t h _ => digF_lin2 hP hc hs t h)]
    show (0 + digF (c + s * P) P 0 * u t) + digF (c + s * P) P 1 * vX m (2 + j) u t = _
    rw [digF_lin0 hc, digF_lin1 hP hc hs]; omega
theorem step_eq (hR : Ring1 P K m) {n c s : Nat} (hm : K = 1 ∨ ∀ t, t < K → m t = digF n P t) (hc : c < P) (hs : s < P) (hK : 2 ≤ K ∨ s = 0) (v : Nat) : mulQ P K m (c + s * P) v = stepQ P K n s c v := by
  refine vec_inj hR (mulQ_lt hR _ _) (hor_lt hR.two (stepF_in hR.two n s c v)) ((mulQ_vec hR _ v).trans (Cg.symm ?_))
  intro t ht
  unfold stepQ
  rw [digF_hor hR.two (stepF_in hR.two n s c v) t ht, act_lin hR hc hs hK]
  unfold stepF
  have e : (s : Int) * ((if t = 0 then 0 else digF v P (t - 1)) - digF v P (K - 1) * digF n P t) = s * vX m K (digF v P) t := by
    rcases hm with h1 | hm
    · have : s = 0 := by omega
      subst this; simp
    · unfold vX; rw [hm t ht]
  rw [e]
  exact emod_dvd_sub _ _

/-- The product of n factors a. -/
def powQ (P K : Nat) (m : Nat → Int) (a : Nat) : Nat → Nat
  | 0 => 1
  | n + 1 => mulQ P K m a (powQ P K m a n)
theorem one_lt (hR : Ring1 P K m) : 1 < P ^ K := by
  have h1 : P ^ 1 ≤ P ^ K := Nat.pow_le_pow_right (by have := hR.two; omega) hR.one
  have := hR.two
  rw [Nat.pow_one] at h1; omega
theorem powQ_lt (hR : Ring1 P K m) (a : Nat) : ∀ n, powQ P K m a n < P ^ K
  | 0 => one_lt hR
  | _ + 1 => mulQ_lt hR _ _
theorem one_mulQ (hR : Ring1 P K m) {a : Nat} (ha : a < P ^ K) : mulQ P K m 1 a = a := by rw [mulQ_comm hR, mulQ_one hR ha]
theorem powQ_add (hR : Ring1 P K m) (a i : Nat) : ∀ j, powQ P K m a (i + j) = mulQ P K m (powQ P K m a i) (powQ P K m a j)
  | 0 => (mulQ_one hR (powQ_lt hR a i)).symm
  | j + 1 => by
    show mulQ P K m a (powQ P K m a (i + j)) = mulQ P K m (powQ P K m a i) (mulQ P K m a (powQ P K m a j))
    rw [powQ_add hR a i j, ← mulQ_assoc hR, ← mulQ_assoc hR, mulQ_comm hR a]
theorem powQ_mul (hR : Ring1 P K m) (a i : Nat) : ∀ j, powQ P K m (powQ P K m a i) j = powQ P K m a (i * j)
  | 0 => rfl
  | j + 1 => by
    show mulQ P K m (powQ P K m a i) (powQ P K m (powQ P K m a i) j) = _
    rw [powQ_mul hR a i j, Nat.mul_succ, Nat.add_comm (i * j) i, powQ_add hR]
theorem powQ_one (hR : Ring1 P K m) : ∀ n, powQ P K m 1 n = 1
  | 0 => rfl
  | n + 1 => by show mulQ P K m 1 (powQ P K m 1 n) = 1; rw [powQ_one hR n]; exact mulQ_one hR (one_lt hR)
theorem powQ_first (hR : Ring1 P K m) {a : Nat} (ha : a < P ^ K) : powQ P K m a 1 = a := mulQ_one hR ha
theorem mulQ_zero (hR : Ring1 P K m) (a : Nat) : mulQ P K m a 0 = 0 := by
  refine vec_inj hR (mulQ_lt hR _ _) (Nat.lt_trans (by decide) (one_lt hR)) ((mulQ_vec hR a 0).trans ?_)
  have e : digF 0 P = vzero := funext fun t => digF_zero P t
  rw [e, act_zero]; exact Cg.refl _ _ _
end

/-- A field: a ring with an element whose powers are all but 0. -/
structure FieldQ (P K : Nat) (m : Nat → Int) : Prop extends Ring1 P K m where
  gen : ∃ g, g < P ^ K ∧ (∀ a, 1 ≤ a → a < P ^ K → ∃ i, i < P ^ K - 1 ∧ powQ P K m g i = a) ∧ powQ P K m g (P ^ K - 1) = 1

theorem pwList_at (f : Nat → Nat) (h : Nat → Nat) (hs : ∀ i, h (i + 1) = f (h i)) : ∀ (N j i : Nat), i < N → (pwList f N (h j))[i]? = some (h (j + i))
  | 0, _, _, hi => absurd hi (by omega)
  | N + 1, j, 0, _ => rfl
  | N + 1, j, i + 1, hi => by
    show (pwList f N (f (h j)))[i]? = _
    rw [← hs j, pwList_at f h hs N (j + 1) i (by omega)]
    congr 2; omega
theorem pwList_length (f : Nat → Nat) : ∀ (N v : Nat), (pwList f N v).length = N
  | 0, _ => rfl
  | N + 1, v => by show (pwList f N (f v)).length + 1 = N + 1; rw [pwList_length f N (f v)]
theorem field_of_row {P K n s c : Nat} {L : List Nat} {m : Nat → Int} (hR : Ring1 P K m) (hm : K = 1 ∨ ∀ t, t < K → m t = digF n P t) (h : genChk (P, K, n, s, c, L) = true) (hg : c + s * P < P ^ K) : FieldQ P K m := by
  unfold genChk at h
  simp only [Bool.and_eq_true, decide_eq_true_eq, Bool.or_eq_true, beq_iff_eq, List.all_eq_true, List.mem_range, List.contains_iff_mem] at h
  obtain ⟨⟨⟨⟨hL, hall⟩, hc⟩, hs⟩, hK⟩ := h
  have hstep : ∀ i, powQ P K m (c + s * P) (i + 1) = stepQ P K n s c (powQ P K m (c + s * P) i) := fun i => step_eq hR hm hc hs hK _
  have hat := pwList_at (stepQ P K n s c) (powQ P K m (c + s * P)) hstep (P ^ K) 0
  have hlen := pwList_length (stepQ P K n s c) (P ^ K) 1
  have h1 := one_lt hR
  have hL' : pwList (stepQ P K n s c) (P ^ K) (powQ P K m (c + s * P) 0) = L ++ [1] := hL
  rw [hL'] at hat
  rw [hL, List.length_append, List.length_singleton] at hlen
  refine ⟨hR, c + s * P, hg, fun a ha1 ha => ?_, ?_⟩
  · have hmem := hall (a - 1) (by omega)
    rw [show a - 1 + 1 = a by omega] at hmem
    obtain ⟨i, hi, e⟩ := List.mem_iff_getElem.1 hmem
    refine ⟨i, by omega, ?_⟩
    have h2 := hat i (by omega)
    rw [List.getElem?_append_left hi, List.getElem?_eq_getElem hi, e, Nat.zero_add] at h2
    exact (Option.some.inj h2).symm
  · have h2 := hat (P ^ K - 1) (by omega)
    rw [List.getElem?_append_right (by omega), show P ^ K - 1 - L.length = 0 by omega, Nat.zero_add] at h2
    exact (Option.some.inj h2).symm
theorem lin_small {P K c s : Nat} (hP : 2 ≤ P) (hK1 : 1 ≤ K) (hc : c < P) (hs : s < P) (hK : 2 ≤ K ∨ s = 0) : c + s * P < P ^ K := by
  rcases hK with hK | hs0
  · exact Nat.lt_of_lt_of_le (lin_lt hc hs) (Nat.pow_le_pow_right (by omega) hK)
  · subst hs0
    have : P ^ 1 ≤ P ^ K := Nat.pow_le_pow_right (by omega) hK1
    rw [Nat.pow_one] at this; omega
/-- EVERY FIELD OF THE DOCUMENT IS ONE. -/
theorem field_of_irr {P K : Nat} {l : List Int} (hp : isPrimeB (P : Int) = true) (hK : 1 ≤ K) (hPK : P ^ K ≤ 64) (hl : l.length = K) (hin : inL (P : Int) l) (hirr : irrP (monL l) K P) : FieldQ P K (monL l) := by
  have hP := (prime_bd hp).1
  have hP2 : 2 ≤ P := by omega
  have hK6 := deg_le hP2 hPK
  have hmin := monL_in (l := l) (p := (P : Int)) (by omega) hin
  have htop := monL_top l
  rw [hl] at htop
  have hR : Ring1 P K (monL l) := ⟨hP2, hK, htop, hmin⟩
  obtain ⟨n, Hn⟩ : ∃ n, n = (hor (monL l) P K K).toNat := ⟨_, rfl⟩
  have hdig : ∀ t, t < K → monL l t = digF n P t := fun t ht => by rw [Hn, digF_hor hP2 hmin t ht]
  have hn : n < P ^ K := by rw [Hn]; exact hor_lt hP2 hmin
  have hcov : covered P K n = true := by
    have h := covered_all
    rw [List.all_eq_true] at h
    have h2 := h (P : Int) (by unfold isPrimeB at hp; rwa [List.contains_iff_mem] at hp)
    rw [List.all_eq_true] at h2
    have h3 := h2 K (by simp; omega)
    rw [Int.toNat_natCast] at h3
    simp only [Bool.or_eq_true, beq_iff_eq, decide_eq_true_eq, List.all_eq_true, List.mem_range] at h3
    rcases h3 with (h3 | h3) | h3
    · omega
    · omega
    · exact h3 n hn
  unfold covered at hcov
  rw [Bool.or_eq_true, List.any_eq_true, List.any_eq_true] at hcov
  rcases hcov with ⟨⟨P', K', n', s, c, L⟩, hmem, hk⟩ | ⟨⟨P', K', n', d, b⟩, hmem, hk⟩
  · simp only [Bool.and_eq_true, beq_iff_eq, Bool.or_eq_true] at hk
    obtain ⟨⟨rfl, rfl⟩, hn'⟩ := hk
    have hchk := List.all_eq_true.1 gen_ok _ hmem
    have hparts := hchk
    unfold genChk at hparts
    simp only [Bool.and_eq_true, decide_eq_true_eq, Bool.or_eq_true, beq_iff_eq] at hparts
    refine field_of_row (n := n') hR ?_ hchk (lin_small hP2 hK hparts.1.1.2 hparts.1.2 hparts.2)
    rcases hn' with rfl | h1
    · exact .inr hdig
    · exact .inl h1
  · simp only [Bool.and_eq_true, beq_iff_eq] at hk
    obtain ⟨⟨rfl, rfl⟩, rfl⟩ := hk
    have hchk := List.all_eq_true.1 red_ok _ hmem
    unfold redChk at hchk
    simp only [Bool.and_eq_true, decide_eq_true_eq, beq_iff_eq, List.all_eq_true, List.mem_range] at hchk
    obtain ⟨⟨⟨hz, hd1⟩, hd2⟩, hb⟩ := hchk
    have hll : digL n' P' K' = l := by
      apply List.ext_getElem
      · rw [digL_length, hl]
      · intro t h1 h2
        have h3 := hdig t (by omega)
        rw [monL_low l t h2] at h3
        have h4 := digL_at n' P' K' t (by omega)
        rw [← h3] at h4
        simpa [h1, h2] using h4
    rw [hll] at hz
    have := (div_same hP2 hl hmin (by omega) (by omega) hb).1 (fun t ht => hz t (by omega))
    exact absurd this (hirr d hd1 hd2 b hb)

section
variable {P K : Nat} {m : Nat → Int}
theorem fermat (hF : FieldQ P K m) {a : Nat} (h1 : 1 ≤ a) (ha : a < P ^ K) : powQ P K m a (P ^ K - 1) = 1 := by
  obtain ⟨g, hg, hall, hone⟩ := hF.gen
  obtain ⟨i, _, rfl⟩ := hall a h1 ha
  rw [powQ_mul hF.toRing1, Nat.mul_comm, ← powQ_mul hF.toRing1, hone, powQ_one hF.toRing1]
end

end Go.Proofs.YtcjkcgfohmhbcabDoor.Fd
