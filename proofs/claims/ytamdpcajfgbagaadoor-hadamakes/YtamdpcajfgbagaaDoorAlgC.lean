/- Elements are numbers: their digits are vectors; sums and products of them keep the laws of a ring. -/
import Derived.Test.YtamdpcajfgbagaaDoorPureF
/- Vectors of k numbers, and what multiplying by x does to them modulo a monic polynomial: polynomials act, and commute. -/
namespace Go.Proofs.YtamdpcajfgbagaaDoor.Fd

/-- Congruence of two vectors of k numbers, modulo p. -/
def Cg (p : Int) (k : Nat) (u v : Nat → Int) : Prop := ∀ t, t < k → p ∣ (u t - v t)
theorem Cg.refl (p : Int) (k : Nat) (u : Nat → Int) : Cg p k u u := fun t _ => by rw [Int.sub_self]; exact Int.dvd_zero p
theorem Cg.symm {p : Int} {k : Nat} {u v : Nat → Int} (h : Cg p k u v) : Cg p k v u := fun t ht => by
  have := Int.dvd_neg.2 (h t ht)
  rwa [Int.neg_sub] at this
theorem Cg.trans {p : Int} {k : Nat} {u v x : Nat → Int} (h : Cg p k u v) (h' : Cg p k v x) : Cg p k u x := fun t ht => by
  have := Int.dvd_add (h t ht) (h' t ht)
  rwa [show u t - v t + (v t - x t) = u t - x t by omega] at this
theorem Cg.of_eq {p : Int} {k : Nat} {u v : Nat → Int} (h : ∀ t, t < k → u t = v t) : Cg p k u v := fun t ht => by rw [h t ht, Int.sub_self]; exact Int.dvd_zero p
def vadd (u v : Nat → Int) : Nat → Int := fun t => u t + v t
def vmul (c : Int) (u : Nat → Int) : Nat → Int := fun t => c * u t
def vzero : Nat → Int := fun _ => 0
theorem Cg.add {p : Int} {k : Nat} {u v u' v' : Nat → Int} (h : Cg p k u v) (h' : Cg p k u' v') : Cg p k (vadd u u') (vadd v v') := fun t ht => by
  have := Int.dvd_add (h t ht) (h' t ht)
  rwa [show u t - v t + (u' t - v' t) = vadd u u' t - vadd v v' t by unfold vadd; omega] at this
theorem Cg.mul {p : Int} {k : Nat} {u v : Nat → Int} {c d : Int} (h : Cg p k u v) (hc : p ∣ (c - d)) : Cg p k (vmul c u) (vmul d v) := fun t ht => by
  have h1 : p ∣ c * (u t - v t) := Int.dvd_mul_of_dvd_right (h t ht)
  have h2 : p ∣ (c - d) * v t := Int.dvd_mul_of_dvd_left hc
  have := Int.dvd_add h1 h2
  rwa [show c * (u t - v t) + (c - d) * v t = vmul c u t - vmul d v t by unfold vmul; rw [Int.mul_sub, Int.sub_mul]; omega] at this

/-- Multiplying by x. -/
def vX (m : Nat → Int) (k : Nat) (v : Nat → Int) : Nat → Int := fun t => (if t = 0 then 0 else v (t - 1)) - v (k - 1) * m t
theorem vX_add (m : Nat → Int) (k : Nat) (u v : Nat → Int) : vX m k (vadd u v) = vadd (vX m k u) (vX m k v) := by
  funext t
  unfold vX vadd
  by_cases h : t = 0
  · simp only [h, if_true]; rw [Int.add_mul]; omega
  · simp only [h, if_false]; rw [Int.add_mul]; omega
theorem vX_mul (m : Nat → Int) (k : Nat) (c : Int) (u : Nat → Int) : vX m k (vmul c u) = vmul c (vX m k u) := by
  funext t
  unfold vX vmul
  by_cases h : t = 0
  · simp only [h, if_true]; rw [Int.mul_sub, Int.mul_zero, Int.mul_assoc]
  · simp only [h, if_false]; rw [Int.mul_sub, Int.mul_assoc]
theorem Cg.vX {p : Int} {k : Nat} (m : Nat → Int) {u v : Nat → Int} (hk : 1 ≤ k) (h : Cg p k u v) : Cg p k (vX m k u) (vX m k v) := fun t ht => by
  have h1 : p ∣ (u (k - 1) - v (k - 1)) * m t := Int.dvd_mul_of_dvd_left (h (k - 1) (by omega))
  unfold Go.Proofs.YtamdpcajfgbagaaDoor.Fd.vX
  by_cases e : t = 0
  · simp only [e, if_true]
    have := Int.dvd_neg.2 h1
    rw [e] at this
    rwa [show -((u (k - 1) - v (k - 1)) * m 0) = 0 - u (k - 1) * m 0 - (0 - v (k - 1) * m 0) by rw [Int.sub_mul]; omega] at this
  · simp only [e, if_false]
    have := Int.dvd_sub (h (t - 1) (by omega)) h1
    rwa [show u (t - 1) - v (t - 1) - (u (k - 1) - v (k - 1)) * m t = u (t - 1) - u (k - 1) * m t - (v (t - 1) - v (k - 1) * m t) by rw [Int.sub_mul]; omega] at this
/-- Multiplying by x, n times. -/
def vXn (m : Nat → Int) (k : Nat) : Nat → (Nat → Int) → (Nat → Int)
  | 0, v => v
  | n + 1, v => vX m k (vXn m k n v)
theorem vXn_add (m : Nat → Int) (k : Nat) (u v : Nat → Int) : ∀ n, vXn m k n (vadd u v) = vadd (vXn m k n u) (vXn m k n v)
  | 0 => rfl
  | n + 1 => by show vX m k (vXn m k n (vadd u v)) = _; rw [vXn_add m k u v n, vX_add]; rfl
theorem vXn_mul (m : Nat → Int) (k : Nat) (c : Int) (u : Nat → Int) : ∀ n, vXn m k n (vmul c u) = vmul c (vXn m k n u)
  | 0 => rfl
  | n + 1 => by show vX m k (vXn m k n (vmul c u)) = _; rw [vXn_mul m k c u n, vX_mul]; rfl
theorem vXn_plus (m : Nat → Int) (k a : Nat) (v : Nat → Int) : ∀ n, vXn m k (n + a) v = vXn m k n (vXn m k a v)
  | 0 => by rw [Nat.zero_add]; rfl
  | n + 1 => by
    rw [show n + 1 + a = (n + a) + 1 by omega]
    show vX m k (vXn m k (n + a) v) = vX m k (vXn m k n (vXn m k a v))
    rw [vXn_plus m k a v n]
theorem Cg.vXn {p : Int} {k : Nat} (m : Nat → Int) {u v : Nat → Int} (hk : 1 ≤ k) (h : Cg p k u v) : ∀ n, Cg p k (vXn m k n u) (vXn m k n v)
  | 0 => h
  | n + 1 => Cg.vX m hk (Cg.vXn m hk h n)
/-- What the polynomial of the first n numbers of a row does to a vector. -/
def act (m : Nat → Int) (k : Nat) (a : Nat → Int) : Nat → (Nat → Int) → (Nat → Int)
  | 0, _ => vzero
  | n + 1, v => vadd (act m k a n v) (vmul (a n) (vXn m k n v))
theorem vX_zero (m : Nat → Int) (k : Nat) : vX m k vzero = vzero := by
  funext t; unfold vX vzero
  by_cases h : t = 0
  · simp [h]
  · simp [h]
theorem act_X (m : Nat → Int) (k : Nat) (a : Nat → Int) (v : Nat → Int) : ∀ n, act m k a n (vX m k v) = vX m k (act m k a n v)
  | 0 => (vX_zero m k).symm
  | n + 1 => by
    show vadd (act m k a n (vX m k v)) (vmul (a n) (vXn m k n (vX m k v))) = vX m k (vadd (act m k a n v) (vmul (a n) (vXn m k n v)))
    rw [act_X m k a v n, vX_add, vX_mul]
    congr 2
    show vXn m k n (vXn m k 1 v) = vX m k (vXn m k n v)
    rw [← vXn_plus]
    rfl
theorem act_Xn (m : Nat → Int) (k : Nat) (a : Nat → Int) (n : Nat) (v : Nat → Int) : ∀ j, act m k a n (vXn m k j v) = vXn m k j (act m k a n v)
  | 0 => rfl
  | j + 1 => by show act m k a n (vX m k (vXn m k j v)) = _; rw [act_X, act_Xn m k a n v j]; rfl
theorem vadd_four (a b c d : Nat → Int) : vadd (vadd a b) (vadd c d) = vadd (vadd a c) (vadd b d) := by funext t; unfold vadd; omega
theorem vmul_add (c : Int) (u v : Nat → Int) : vmul c (vadd u v) = vadd (vmul c u) (vmul c v) := by funext t; unfold vmul vadd; rw [Int.mul_add]
theorem vmul_vmul (c d : Int) (u : Nat → Int) : vmul c (vmul d u) = vmul d (vmul c u) := by funext t; unfold vmul; rw [← Int.mul_assoc, ← Int.mul_assoc, Int.mul_comm c d]
theorem act_add (m : Nat → Int) (k : Nat) (a : Nat → Int) (u v : Nat → Int) : ∀ n, act m k a n (vadd u v) = vadd (act m k a n u) (act m k a n v)
  | 0 => by funext t; rfl
  | n + 1 => by
    show vadd (act m k a n (vadd u v)) (vmul (a n) (vXn m k n (vadd u v))) = _
    rw [act_add m k a u v n, vXn_add, vmul_add, vadd_four]; rfl
theorem act_mul (m : Nat → Int) (k : Nat) (a : Nat → Int) (c : Int) (v : Nat → Int) : ∀ n, act m k a n (vmul c v) = vmul c (act m k a n v)
  | 0 => by funext t; show (0 : Int) = c * 0; rw [Int.mul_zero]
  | n + 1 => by
    show vadd (act m k a n (vmul c v)) (vmul (a n) (vXn m k n (vmul c v))) = _
    rw [act_mul m k a c v n, vXn_mul, vmul_vmul, ← vmul_add]; rfl
theorem act_zero (m : Nat → Int) (k : Nat) (a : Nat → Int) : ∀ n, act m k a n vzero = vzero
  | n => by
    have h := act_mul m k a 0 vzero n
    have e : ∀ u : Nat → Int, vmul 0 u = vzero := fun u => by funext t; show 0 * u t = 0; rw [Int.zero_mul]
    rw [e, e] at h; exact h
/-- Polynomials commute. -/
theorem act_comm (m : Nat → Int) (k : Nat) (a b : Nat → Int) (n : Nat) (v : Nat → Int) : ∀ j, act m k a n (act m k b j v) = act m k b j (act m k a n v)
  | 0 => act_zero m k a n
  | j + 1 => by
    show act m k a n (vadd (act m k b j v) (vmul (b j) (vXn m k j v))) = _
    rw [act_add, act_comm m k a b n v j, act_mul, act_Xn]; rfl
theorem Cg.act {p : Int} {k : Nat} (m : Nat → Int) (hk : 1 ≤ k) {a b u v : Nat → Int} (n : Nat) (ha : ∀ t, t < n → p ∣ (a t - b t)) (h : Cg p k u v) : Cg p k (act m k a n u) (act m k b n v) := by
  induction n with
  | zero => exact Cg.refl _ _ _
  | succ n ih => exact (ih (fun t ht => ha t (by omega))).add ((Cg.vXn m hk h n).mul (ha n (by omega)))
/-- The i-th unit. -/
def unitV (i : Nat) : Nat → Int := fun t => if t = i then 1 else 0
theorem vX_unit (m : Nat → Int) (k i : Nat) (hi : i + 1 < k) (t : Nat) : vX m k (unitV i) t = unitV (i + 1) t := by
  unfold vX unitV
  rw [if_neg (show ¬ k - 1 = i by omega), Int.zero_mul, Int.sub_zero]
  by_cases h : t = 0
  · subst h; simp
  · rw [if_neg h]
    by_cases e : t = i + 1
    · rw [if_pos e, if_pos (by omega)]
    · rw [if_neg e, if_neg (by omega)]
theorem vXn_unit (m : Nat → Int) (k : Nat) (hk : 1 ≤ k) : ∀ i, i < k → vXn m k i (unitV 0) = unitV i
  | 0, _ => rfl
  | i + 1, h => by
    show vX m k (vXn m k i (unitV 0)) = _
    rw [vXn_unit m k hk i (by omega)]
    funext t; exact vX_unit m k i h t
/-- A vector is what its polynomial does to 1. -/
theorem act_unit (m : Nat → Int) (k : Nat) (hk : 1 ≤ k) (a : Nat → Int) : ∀ n, n ≤ k → ∀ t, act m k a n (unitV 0) t = if t < n then a t else 0
  | 0, _, t => by rw [if_neg (by omega)]; rfl
  | n + 1, h, t => by
    show act m k a n (unitV 0) t + a n * vXn m k n (unitV 0) t = _
    rw [act_unit m k hk a n (by omega) t, vXn_unit m k hk n (by omega)]
    unfold unitV
    by_cases e : t = n
    · subst e; rw [if_neg (by omega), if_pos rfl, if_pos (by omega)]; omega
    · rw [if_neg e]
      by_cases h2 : t < n
      · rw [if_pos h2, if_pos (by omega)]; omega
      · rw [if_neg h2, if_neg (by omega)]; omega

end Go.Proofs.YtamdpcajfgbagaaDoor.Fd

/- The program's product of two elements is what the one's polynomial does to the other. -/
namespace Go.Proofs.YtamdpcajfgbagaaDoor.Fd

theorem vadd_zero (u : Nat → Int) : vadd u vzero = u := by funext t; show u t + 0 = u t; omega
theorem vzero_add (u : Nat → Int) : vadd vzero u = u := by funext t; show 0 + u t = u t; omega
theorem vmul_zero' (c : Int) : vmul c vzero = vzero := by funext t; show c * 0 = 0; rw [Int.mul_zero]
theorem zero_vmul (u : Nat → Int) : vmul 0 u = vzero := by funext t; show 0 * u t = 0; rw [Int.zero_mul]
theorem vmul_coadd (c d : Int) (u : Nat → Int) : vmul (c + d) u = vadd (vmul c u) (vmul d u) := by funext t; unfold vmul vadd; rw [Int.add_mul]
theorem vmul_comul (c d : Int) (u : Nat → Int) : vmul (c * d) u = vmul c (vmul d u) := by funext t; unfold vmul; rw [Int.mul_assoc]
theorem act_coadd (m : Nat → Int) (k : Nat) (f g : Nat → Int) (v : Nat → Int) : ∀ n, act m k (vadd f g) n v = vadd (act m k f n v) (act m k g n v)
  | 0 => (vadd_zero vzero).symm
  | n + 1 => by
    show vadd (act m k (vadd f g) n v) (vmul (f n + g n) (vXn m k n v)) = _
    rw [act_coadd m k f g v n, vmul_coadd, vadd_four]; rfl
theorem act_comul (m : Nat → Int) (k : Nat) (c : Int) (f : Nat → Int) (v : Nat → Int) : ∀ n, act m k (vmul c f) n v = vmul c (act m k f n v)
  | 0 => (vmul_zero' c).symm
  | n + 1 => by
    show vadd (act m k (vmul c f) n v) (vmul (c * f n) (vXn m k n v)) = _
    rw [act_comul m k c f v n, vmul_comul, ← vmul_add]; rfl
theorem act_cozero (m : Nat → Int) (k : Nat) (f : Nat → Int) (v : Nat → Int) : ∀ n, (∀ t, t < n → f t = 0) → act m k f n v = vzero
  | 0, _ => rfl
  | n + 1, h => by
    show vadd (act m k f n v) (vmul (f n) (vXn m k n v)) = _
    rw [act_cozero m k f v n (fun t ht => h t (by omega)), h n (by omega), zero_vmul, vadd_zero]
theorem act_cut (m : Nat → Int) (k : Nat) (f : Nat → Int) (v : Nat → Int) (n : Nat) : ∀ j, (∀ t, n ≤ t → t < n + j → f t = 0) → act m k f (n + j) v = act m k f n v
  | 0, _ => rfl
  | j + 1, h => by
    show vadd (act m k f (n + j) v) (vmul (f (n + j)) (vXn m k (n + j) v)) = _
    rw [act_cut m k f v n j (fun t h1 h2 => h t h1 (by omega)), h (n + j) (by omega) (by omega), zero_vmul, vadd_zero]
/-- j numbers of a row, moved by i places. -/
def shiftV (i j : Nat) (b : Nat → Int) : Nat → Int := fun t => if i ≤ t ∧ t < i + j then b (t - i) else 0
theorem act_single (m : Nat → Int) (k : Nat) (i : Nat) (c : Int) (v : Nat → Int) (n : Nat) (h : i < n) : act m k (fun t => if t = i then c else 0) n v = vmul c (vXn m k i v) := by
  obtain ⟨j, rfl⟩ : ∃ j, n = (i + 1) + j := ⟨n - (i + 1), by omega⟩
  rw [act_cut m k _ v (i + 1) j (fun t h1 _ => if_neg (by omega))]
  show vadd (act m k _ i v) (vmul (if i = i then c else 0) (vXn m k i v)) = _
  rw [act_cozero m k _ v i (fun t ht => if_neg (by omega)), vzero_add, if_pos rfl]
theorem act_shift (m : Nat → Int) (k : Nat) (i : Nat) (b : Nat → Int) (v : Nat → Int) (n : Nat) : ∀ j, i + j ≤ n → act m k (shiftV i j b) n v = vXn m k i (act m k b j v)
  | 0, _ => by
    rw [act_cozero m k (shiftV i 0 b) v n (fun t _ => by unfold shiftV; exact if_neg (by omega))]
    have h := vXn_mul m k 0 vzero i
    rw [zero_vmul, zero_vmul] at h
    exact h.symm
  | j + 1, h => by
    have e : shiftV i (j + 1) b = vadd (shiftV i j b) (fun t => if t = i + j then b j else 0) := by
      funext t
      show (if i ≤ t ∧ t < i + (j + 1) then b (t - i) else 0) = (if i ≤ t ∧ t < i + j then b (t - i) else 0) + (if t = i + j then b j else 0)
      by_cases e1 : t = i + j
      · subst e1
        rw [if_pos (by omega), if_neg (by omega), if_pos rfl, show i + j - i = j by omega]; omega
      · rw [if_neg e1]
        by_cases e2 : i ≤ t ∧ t < i + j
        · rw [if_pos e2, if_pos (by omega)]; omega
        · rw [if_neg e2, if_neg (by omega)]; omega
    rw [e, act_coadd, act_shift m k i b v n j (by omega), act_single m k (i + j) (b j) v n (by omega), Nat.add_comm i j]
    rw [show vXn m k (j + i) v = vXn m k i (vXn m k j v) by rw [Nat.add_comm, vXn_plus]]
    show _ = vXn m k i (vadd (act m k b j v) (vmul (b j) (vXn m k j v)))
    rw [vXn_add, vXn_mul]

/-- The polynomial itself does nothing. -/
theorem act_self (m : Nat → Int) (k : Nat) (hk : 1 ≤ k) (hm : m k = 1) (t : Nat) (ht : t < k) : act m k m (k + 1) (unitV 0) t = 0 := by
  show act m k m k (unitV 0) t + m k * vXn m k k (unitV 0) t = 0
  rw [act_unit m k hk m k (Nat.le_refl _) t, if_pos ht, hm, Int.one_mul]
  obtain ⟨j, rfl⟩ : ∃ j, k = j + 1 := ⟨k - 1, by omega⟩
  show m t + vX m (j + 1) (vXn m (j + 1) j (unitV 0)) t = 0
  rw [vXn_unit m (j + 1) hk j (by omega)]
  unfold vX unitV
  rw [if_pos (show j + 1 - 1 = j by omega)]
  by_cases e : t = 0
  · rw [if_pos e]; omega
  · rw [if_neg e, if_neg (show ¬ t - 1 = j by omega)]; omega
theorem emod_dvd_sub (x p : Int) : p ∣ (x % p - x) := by
  have h : x % p - x = p * (-(x / p)) := by
    have := Int.emod_add_mul_ediv x p
    rw [Int.mul_neg]; omega
  rw [h]; exact Int.dvd_mul_right p _
theorem rd_act (m : Nat → Int) (k : Nat) (p : Int) (hk : 1 ≤ k) (hm : m k = 1) (f : Nat → Int) (i n : Nat) (hi : k ≤ i) (hn : i < n) : Cg p k (act m k (rd f m k p i) n (unitV 0)) (act m k f n (unitV 0)) := by
  have h1 : Cg p k (act m k (rd f m k p i) n (unitV 0)) (act m k (vadd f (vmul (-(f i)) (shiftV (i - k) (k + 1) m))) n (unitV 0)) := by
    refine Cg.act m hk n (fun t _ => ?_) (Cg.refl _ _ _)
    unfold rd vadd vmul shiftV
    by_cases e : i - k ≤ t ∧ t ≤ i
    · rw [if_pos e, if_pos (by omega)]
      have := emod_dvd_sub (f t - f i * m (t - (i - k))) p
      rwa [show f t - f i * m (t - (i - k)) = f t + -f i * m (t - (i - k)) by rw [Int.neg_mul]; omega] at this ⊢
    · rw [if_neg e, if_neg (by omega), Int.mul_zero, Int.add_zero, Int.sub_self]; exact Int.dvd_zero p
  refine h1.trans ?_
  rw [act_coadd, act_comul, act_shift m k (i - k) m (unitV 0) n (k + 1) (by omega)]
  have h2 : Cg p k (vXn m k (i - k) (act m k m (k + 1) (unitV 0))) (vXn m k (i - k) vzero) := Cg.vXn m hk (Cg.of_eq fun t ht => act_self m k hk hm t ht) (i - k)
  have h3 : vXn m k (i - k) vzero = vzero := by
    have h := vXn_mul m k 0 vzero (i - k)
    rw [zero_vmul, zero_vmul] at h; exact h
  rw [h3] at h2
  have h4 := (Cg.refl p k (act m k f n (unitV 0))).add (h2.mul (c := -(f i)) (d := -(f i)) (by rw [Int.sub_self]; exact Int.dvd_zero p))
  rwa [vmul_zero', vadd_zero] at h4
theorem redN_act (m : Nat → Int) (k : Nat) (p : Int) (hk : 1 ≤ k) (hm : m k = 1) (N : Nat) : ∀ (n : Nat) (f : Nat → Int), k + n ≤ N → Cg p k (act m k (redN m k p n f) N (unitV 0)) (act m k f N (unitV 0))
  | 0, _, _ => Cg.refl _ _ _
  | n + 1, f, h => by
    show Cg p k (act m k (redN m k p n (rd f m k p (k + n))) N (unitV 0)) _
    exact (redN_act m k p hk hm N n _ (by omega)).trans (rd_act m k p hk hm f (k + n) N (by omega) (by omega))
theorem mulRow_act (m : Nat → Int) (k : Nat) (p : Int) (hk : 1 ≤ k) (f : Nat → Int) (x : Int) (b : Nat → Int) (i j n : Nat) (h : i + j ≤ n) : Cg p k (act m k (mulRow f x b p i j) n (unitV 0)) (vadd (act m k f n (unitV 0)) (vmul x (vXn m k i (act m k b j (unitV 0))))) := by
  have h1 : Cg p k (act m k (mulRow f x b p i j) n (unitV 0)) (act m k (vadd f (vmul x (shiftV i j b))) n (unitV 0)) := by
    refine Cg.act m hk n (fun t _ => ?_) (Cg.refl _ _ _)
    unfold mulRow vadd vmul shiftV
    by_cases e : i ≤ t ∧ t < i + j
    · rw [if_pos e, if_pos e]; exact emod_dvd_sub _ p
    · rw [if_neg e, if_neg e, Int.mul_zero, Int.add_zero, Int.sub_self]; exact Int.dvd_zero p
  rw [act_coadd, act_comul, act_shift m k i b (unitV 0) n j h] at h1
  exact h1
theorem mulN_act (m : Nat → Int) (k : Nat) (p : Int) (hk : 1 ≤ k) (a b : Nat → Int) (j n : Nat) : ∀ i, i + j ≤ n + 1 → Cg p k (act m k (mulN a b p j i) n (unitV 0)) (act m k a i (act m k b j (unitV 0)))
  | 0, _ => Cg.of_eq fun t _ => by rw [act_cozero m k (mulN a b p j 0) _ n (fun t _ => rfl)]; rfl
  | i + 1, h => by
    show Cg p k (act m k (mulRow (mulN a b p j i) (a i) b p i j) n (unitV 0)) (vadd (act m k a i (act m k b j (unitV 0))) (vmul (a i) (vXn m k i (act m k b j (unitV 0)))))
    exact (mulRow_act m k p hk _ _ _ i j n (by omega)).trans ((mulN_act m k p hk a b j n i (by omega)).add (Cg.refl _ _ _))
/-- THE PRODUCT: what is left of the product of two rows is what the one does to the other. -/
theorem prod_act (m : Nat → Int) (k : Nat) (p : Int) (hk : 1 ≤ k) (hm : m k = 1) (a b : Nat → Int) : Cg p k (redN m k p k (mulN a b p k k)) (act m k a k b) := by
  have h1 := redN_act m k p hk hm (k + k) k (mulN a b p k k) (Nat.le_refl _)
  have h2 := mulN_act m k p hk a b k (k + k) k (by omega)
  have h3 := h1.trans h2
  rw [act_cut m k _ (unitV 0) k k (fun t h1 h2 => redN_zero hm k _ t h1 h2)] at h3
  have h4 : Cg p k (redN m k p k (mulN a b p k k)) (act m k (redN m k p k (mulN a b p k k)) k (unitV 0)) := Cg.of_eq fun t ht => by rw [act_unit m k hk _ k (Nat.le_refl _) t, if_pos ht]
  have h5 : Cg p k (act m k b k (unitV 0)) b := Cg.of_eq fun t ht => by rw [act_unit m k hk b k (Nat.le_refl _) t, if_pos ht]
  exact (h4.trans h3).trans (Cg.act m hk k (fun t _ => by rw [Int.sub_self]; exact Int.dvd_zero p) h5)

end Go.Proofs.YtamdpcajfgbagaaDoor.Fd

namespace Go.Proofs.YtamdpcajfgbagaaDoor.Fd

theorem hor_dig {f : Nat → Int} {p : Int} {k : Nat} (hp : 2 ≤ p) (hf : inP p f) : ∀ n, n ≤ k → ∀ t, t < n → hor f p k n / p ^ t % p = f (k - n + t)
  | 0, _, t, h => absurd h (by omega)
  | n + 1, hn, t, h => by
    have hb := hf (k - 1 - n)
    unfold hor
    cases t with
    | zero =>
      rw [Int.pow_zero, Int.ediv_one, Int.add_comm, Int.add_mul_emod_self_right, Int.emod_eq_of_lt hb.1 hb.2]
      congr 1; omega
    | succ t =>
      rw [Int.pow_succ, Int.mul_comm (p ^ t) p, ← Int.ediv_ediv_of_nonneg (by omega)]
      have e : (hor f p k n * p + f (k - 1 - n)) / p = hor f p k n := by
        rw [Int.add_comm, Int.add_mul_ediv_right _ _ (by omega), Int.ediv_eq_zero_of_lt hb.1 hb.2, Int.zero_add]
      rw [e, hor_dig hp hf n (by omega) t (by omega)]
      congr 1; omega
theorem digF_hor {f : Nat → Int} {P K : Nat} (hP : 2 ≤ P) (hf : inP P f) (t : Nat) (ht : t < K) : digF (hor f P K K).toNat P t = f t := by
  have h := hor_dig (k := K) (show (2 : Int) ≤ P by omega) hf K (Nat.le_refl _) t ht
  have h0 := (hor_bd (k := K) (show (2 : Int) ≤ P by omega) hf K).1
  unfold digF
  rw [Int.natCast_emod, Int.natCast_ediv, Int.natCast_pow, Int.toNat_of_nonneg h0, h]
  congr 1; omega
theorem hor_digF {a P K : Nat} (hP : 2 ≤ P) (ha : a < P ^ K) : ∀ n, n ≤ K → hor (digF a P) P K n = ((a / P ^ (K - n) : Nat) : Int)
  | 0, _ => by rw [Nat.sub_zero, Nat.div_eq_of_lt ha]; rfl
  | n + 1, hn => by
    unfold hor
    rw [hor_digF hP ha n (by omega)]
    unfold digF
    rw [show K - n = (K - (n + 1)) + 1 by omega, div_succ, show K - 1 - n = K - (n + 1) by omega]
    have := Nat.div_add_mod (a / P ^ (K - (n + 1))) P
    rw [Nat.mul_comm] at this
    omega
theorem digF_inj {a b P K : Nat} (hP : 2 ≤ P) (ha : a < P ^ K) (hb : b < P ^ K) (h : ∀ t, t < K → digF a P t = digF b P t) : a = b := by
  have h1 := hor_digF hP ha K (Nat.le_refl _)
  have h2 := hor_digF hP hb K (Nat.le_refl _)
  rw [hor_congr h K (Nat.le_refl _), h2] at h1
  simp at h1
  omega
theorem eq_of_dvd {x y p : Int} (hx : 0 ≤ x ∧ x < p) (hy : 0 ≤ y ∧ y < p) (h : p ∣ (x - y)) : x = y := by
  have h1 := (Int.emod_emod_of_dvd x (Int.dvd_refl p)).symm
  have h2 : x % p = y % p := Int.emod_eq_emod_iff_emod_sub_eq_zero.2 (Int.emod_eq_zero_of_dvd h)
  rw [Int.emod_eq_of_lt hx.1 hx.2, Int.emod_eq_of_lt hy.1 hy.2] at h2
  exact h2

/-- What is asked of a field for its sums and products to be those of a ring. -/
structure Ring1 (P K : Nat) (m : Nat → Int) : Prop where
  two : 2 ≤ P
  one : 1 ≤ K
  top : m K = 1
  low : inP P m
/-- Sum and product of two elements. -/
def addQ (P K : Nat) (a b : Nat) : Nat := (hor (plusF (digF a P) (digF b P) P) P K K).toNat
def mulQ (P K : Nat) (m : Nat → Int) (a b : Nat) : Nat := (hor (redN m K P K (mulN (digF a P) (digF b P) P K K)) P K K).toNat
section
variable {P K : Nat} {m : Nat → Int}
theorem hor_lt (hP : 2 ≤ P) {f : Nat → Int} (hf : inP P f) : (hor f P K K).toNat < P ^ K := by
  obtain ⟨h0, h1⟩ := hor_bd (k := K) (show (2 : Int) ≤ P by omega) hf K
  have e : (((P ^ K : Nat)) : Int) = (P : Int) ^ K := Int.natCast_pow P K
  omega
theorem addQ_lt (hR : Ring1 P K m) (a b : Nat) : addQ P K a b < P ^ K := hor_lt hR.two (plusF_in _ _ _ (by have := hR.two; omega))
theorem mulQ_in (hR : Ring1 P K m) (a b : Nat) : inP P (redN m K P K (mulN (digF a P) (digF b P) P K K)) := redN_in (by have := hR.two; omega) K _ (mulN_in (by have := hR.two; omega) K)
theorem mulQ_lt (hR : Ring1 P K m) (a b : Nat) : mulQ P K m a b < P ^ K := hor_lt hR.two (mulQ_in hR a b)
theorem addQ_vec (hR : Ring1 P K m) (a b : Nat) : Cg P K (digF (addQ P K a b) P) (vadd (digF a P) (digF b P)) := fun t ht => by
  unfold addQ
  rw [digF_hor hR.two (plusF_in _ _ _ (by have := hR.two; omega)) t ht]
  exact emod_dvd_sub _ _
theorem mulQ_vec (hR : Ring1 P K m) (a b : Nat) : Cg P K (digF (mulQ P K m a b) P) (act m K (digF a P) K (digF b P)) := by
  have h : Cg P K (digF (mulQ P K m a b) P) (redN m K P K (mulN (digF a P) (digF b P) P K K)) := Cg.of_eq fun t ht => by
    unfold mulQ; exact digF_hor hR.two (mulQ_in hR a b) t ht
  exact h.trans (prod_act m K P hR.one hR.top _ _)
theorem vec_inj (hR : Ring1 P K m) {a b : Nat} (ha : a < P ^ K) (hb : b < P ^ K) (h : Cg P K (digF a P) (digF b P)) : a = b :=
  digF_inj hR.two ha hb fun t ht => eq_of_dvd (digF_in a P (by have := hR.two; omega) t) (digF_in b P (by have := hR.two; omega) t) (h t ht)
theorem self_dvd (a : Nat → Int) (p : Int) (n : Nat) : ∀ t, t < n → p ∣ (a t - a t) := fun t _ => by rw [Int.sub_self]; exact Int.dvd_zero p
theorem act_cg (hR : Ring1 P K m) (a : Nat → Int) {u v : Nat → Int} (h : Cg P K u v) : Cg P K (act m K a K u) (act m K a K v) := Cg.act m hR.one K (self_dvd a _ K) h
theorem act_cgl (hR : Ring1 P K m) {a b : Nat → Int} (u : Nat → Int) (h : Cg P K a b) : Cg P K (act m K a K u) (act m K b K u) := Cg.act m hR.one K h (Cg.refl _ _ _)
theorem act_one (hR : Ring1 P K m) (a : Nat → Int) : Cg P K (act m K a K (unitV 0)) a := Cg.of_eq fun t ht => by rw [act_unit m K hR.one a K (Nat.le_refl _) t, if_pos ht]
theorem act_swap (hR : Ring1 P K m) (a b : Nat → Int) : Cg P K (act m K a K b) (act m K b K a) := by
  have h1 := act_cg hR a (act_one hR b).symm
  rw [act_comm] at h1
  exact h1.trans (act_cg hR b (act_one hR a))
theorem addQ_comm (hR : Ring1 P K m) (a b : Nat) : addQ P K a b = addQ P K b a := by
  refine vec_inj hR (addQ_lt hR a b) (addQ_lt hR b a) ((addQ_vec hR a b).trans ?_)
  have e : vadd (digF a P) (digF b P) = vadd (digF b P) (digF a P) := by funext t; unfold vadd; omega
  rw [e]; exact (addQ_vec hR b a).symm
theorem addQ_assoc (hR : Ring1 P K m) (a b c : Nat) : addQ P K (addQ P K a b) c = addQ P K a (addQ P K b c) := by
  refine vec_inj hR (addQ_lt hR _ _) (addQ_lt hR _ _) ?_
  refine (addQ_vec hR _ _).trans (((addQ_vec hR a b).add (Cg.refl _ _ _)).trans ?_)
  refine Cg.trans ?_ (addQ_vec hR _ _).symm
  refine Cg.trans ?_ ((Cg.refl _ _ (digF a P)).add (addQ_vec hR b c).symm)
  exact Cg.of_eq fun t _ => by unfold vadd; omega
theorem digF_zero (P t : Nat) : digF 0 P t = 0 := by unfold digF; simp
theorem addQ_zero (hR : Ring1 P K m) {a : Nat} (ha : a < P ^ K) : addQ P K a 0 = a :=
  vec_inj hR (addQ_lt hR _ _) ha ((addQ_vec hR a 0).trans (Cg.of_eq fun t _ => by unfold vadd; rw [digF_zero]; omega))
theorem mulQ_comm (hR : Ring1 P K m) (a b : Nat) : mulQ P K m a b = mulQ P K m b a :=
  vec_inj hR (mulQ_lt hR a b) (mulQ_lt hR b a) ((mulQ_vec hR a b).trans ((act_swap hR _ _).trans (mulQ_vec hR b a).symm))
theorem mulQ_assoc (hR : Ring1 P K m) (a b c : Nat) : mulQ P K m (mulQ P K m a b) c = mulQ P K m a (mulQ P K m b c) := by
  refine vec_inj hR (mulQ_lt hR _ _) (mulQ_lt hR _ _) ?_
  -- (ab)c = c(ab) = c(a b) = a(c b) = a(b c)
  have h1 : Cg P K (digF (mulQ P K m (mulQ P K m a b) c) P) (act m K (digF c P) K (act m K (digF a P) K (digF b P))) :=
    (mulQ_vec hR _ c).trans ((act_swap hR _ _).trans (act_cg hR _ (mulQ_vec hR a b)))
  rw [act_comm] at h1
  refine h1.trans ?_
  refine Cg.trans (act_cg hR _ ((act_swap hR _ _).trans (mulQ_vec hR b c).symm)) (mulQ_vec hR a _).symm
theorem digF_one (hP : 2 ≤ P) (t : Nat) : digF 1 P t = unitV 0 t := by
  unfold digF unitV
  cases t with
  | zero => rw [Nat.pow_zero, Nat.div_one, Nat.mod_eq_of_lt (by omega)]; rfl
  | succ t =>
    have h : 1 < P ^ (t + 1) := Nat.lt_of_lt_of_le (by omega : 1 < 2 ^ 1) (Nat.le_trans (Nat.pow_le_pow_right (by decide) (by omega : 1 ≤ t + 1)) (Nat.pow_le_pow_left hP (t + 1)))
    rw [Nat.div_eq_of_lt h]; simp
theorem mulQ_one (hR : Ring1 P K m) {a : Nat} (ha : a < P ^ K) : mulQ P K m a 1 = a := by
  refine vec_inj hR (mulQ_lt hR _ _) ha ((mulQ_vec hR a 1).trans ?_)
  have e : digF 1 P = unitV 0 := funext fun t => digF_one hR.two t
  rw [e]; exact act_one hR _
theorem mulQ_add (hR : Ring1 P K m) (a b c : Nat) : mulQ P K m a (addQ P K b c) = addQ P K (mulQ P K m a b) (mulQ P K m a c) := by
  refine vec_inj hR (mulQ_lt hR _ _) (addQ_lt hR _ _) ((mulQ_vec hR a _).trans ?_)
  refine (act_cg hR _ (addQ_vec hR b c)).trans ?_
  rw [act_add]
  exact (((mulQ_vec hR a b).symm).add ((mulQ_vec hR a c).symm)).trans (addQ_vec hR _ _).symm
end

end Go.Proofs.YtamdpcajfgbagaaDoor.Fd
