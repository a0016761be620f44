/- The program's product of two elements is what the one's polynomial does to the other. -/
import Derived.Test.YtagpbkcnjogbgabDoorAlg
namespace Go.Proofs.YtagpbkcnjogbgabDoor.Fd

theorem vadd_zero (u : Nat → Int) : vadd u vzero = u := by funext t; show u t + 0 = u t; omega
theorem vzero_add (u : Nat → Int) : vadd vzero u = u := by funext t; show 0 + u t = u t; omega
theorem vmul_zero' (c : Int) : vmul c vzero = vzero := by funext t; show c * 0 = 0; rw [Int.mul_zero]
theorem zero_vmul (u : Nat → Int) : vmul 0 u = vzero := by funext t; show 0 * u t = 0; rw [Int.zero_mul]
theorem vmul_coadd (c d : Int) (u : Nat → Int) : vmul (c + d) u = vadd (vmul c u) (vmul d u) := by funext t; unfold vmul vadd; rw [Int.add_mul]
theorem vmul_comul (c d : Int) (u : Nat → Int) : vmul (c * d) u = vmul c (vmul d u) := by funext t; unfold vmul; rw [Int.mul_assoc]
theorem act_coadd (m : Nat → Int) (k : Nat) (f g : Nat → Int) (v : Nat → Int) : ∀ n, act m k (vadd f g) n v = vadd (act m k f n v) (act m k g n v)
  | 0 => (vadd_zero vzero).symm
  | n + 1 => by
    show vadd (act m k (vadd f g) n v) (vmul (f n + g n) (vXn m k n v)) = _
    rw [act_coadd m k f g v n, vmul_coadd, vadd_four]; rfl
theorem act_comul (m : Nat → Int) (k : Nat) (c : Int) (f : Nat → Int) (v : Nat → Int) : ∀ n, act m k (vmul c f) n v = vmul c (act m k f n v)
  | 0 => (vmul_zero' c).symm
  | n + 1 => by
    show vadd (act m k (vmul c f) n v) (vmul (c * f n) (vXn m k n v)) = _
    rw [act_comul m k c f v n, vmul_comul, ← vmul_add]; rfl
theorem act_cozero (m : Nat → Int) (k : Nat) (f : Nat → Int) (v : Nat → Int) : ∀ n, (∀ t, t < n → f t = 0) → act m k f n v = vzero
  | 0, _ => rfl
  | n + 1, h => by
    show vadd (act m k f n v) (vmul (f n) (vXn m k n v)) = _
    rw [act_cozero m k f v n (fun t ht => h t (by omega)), h n (by omega), zero_vmul, vadd_zero]
theorem act_cut (m : Nat → Int) (k : Nat) (f : Nat → Int) (v : Nat → Int) (n : Nat) : ∀ j, (∀ t, n ≤ t → t < n + j → f t = 0) → act m k f (n + j) v = act m k f n v
  | 0, _ => rfl
  | j + 1, h => by
    show vadd (act m k f (n + j) v) (vmul (f (n + j)) (vXn m k (n + j) v)) = _
    rw [act_cut m k f v n j (fun t h1 h2 => h t h1 (by omega)), h (n + j) (by omega) (by omega), zero_vmul, vadd_zero]
/-- j numbers of a row, moved by i places. -/
def shiftV (i j : Nat) (b : Nat → Int) : Nat → Int := fun t => if i ≤ t ∧ t < i + j then b (t - i) else 0
theorem act_single (m : Nat → Int) (k : Nat) (i : Nat) (c : Int) (v : Nat → Int) (n : Nat) (h : i < n) : act m k (fun t => if t = i then c else 0) n v = vmul c (vXn m k i v) := by
  obtain ⟨j, rfl⟩ : ∃ j, n = (i + 1) + j := ⟨n - (i + 1), by omega⟩
  rw [act_cut m k _ v (i + 1) j (fun t h1 _ => if_neg (by omega))]
  show vadd (act m k _ i v) (vmul (if i = i then c else 0) (vXn m k i v)) = _
  rw [act_cozero m k _ v i (fun t ht => if_neg (by omega)), vzero_add, if_pos rfl]
theorem act_shift (m : Nat → Int) (k : Nat) (i : Nat) (b : Nat → Int) (v : Nat → Int) (n : Nat) : ∀ j, i + j ≤ n → act m k (shiftV i j b) n v = vXn m k i (act m k b j v)
  | 0, _ => by
    rw [act_cozero m k (shiftV i 0 b) v n (fun t _ => by unfold shiftV; exact if_neg (by omega))]
    have h := vXn_mul m k 0 vzero i
    rw [zero_vmul, zero_vmul] at h
    exact h.symm
  | j + 1, h => by
    have e : shiftV i (j + 1) b = vadd (shiftV i j b) (fun t => if t = i + j then b j else 0) := by
      funext t
      show (if i ≤ t ∧ t < i + (j + 1) then b (t - i) else 0) = (if i ≤ t ∧ t < i + j then b (t - i) else 0) + (if t = i + j then b j else 0)
      by_cases e1 : t = i + j
      · subst e1
        rw [if_pos (by omega), if_neg (by omega), if_pos rfl, show i + j - i = j by omega]; omega
      · rw [if_neg e1]
        by_cases e2 : i ≤ t ∧ t < i + j
        · rw [if_pos e2, if_pos (by omega)]; omega
        · rw [if_neg e2, if_neg (by omega)]; omega
    rw [e, act_coadd, act_shift m k i b v n j (by omega), act_single m k (i + j) (b j) v n (by omega), Nat.add_comm i j]
    rw [show vXn m k (j + i) v = vXn m k i (vXn m k j v) by rw [Nat.add_comm, vXn_plus]]
    show _ = vXn m k i (vadd (act m k b j v) (vmul (b j) (vXn m k j v)))
    rw [vXn_add, vXn_mul]

/-- The polynomial itself does nothing. -/
theorem act_self (m : Nat → Int) (k : Nat) (hk : 1 ≤ k) (hm : m k = 1) (t : Nat) (ht : t < k) : act m k m (k + 1) (unitV 0) t = 0 := by
  show act m k m k (unitV 0) t + m k * vXn m k k (unitV 0) t = 0
  rw [act_unit m k hk m k (Nat.le_refl _) t, if_pos ht, hm, Int.one_mul]
  obtain ⟨j, rfl⟩ : ∃ j, k = j + 1 := ⟨k - 1, by omega⟩
  show m t + vX m (j + 1) (vXn m (j + 1) j (unitV 0)) t = 0
  rw [vXn_unit m (j + 1) hk j (by omega)]
  unfold vX unitV
  rw [if_pos (show j + 1 - 1 = j by omega)]
  by_cases e : t = 0
  · rw [if_pos e]; omega
  · rw [if_neg e, if_neg (show ¬ t - 1 = j by omega)]; omega
theorem emod_dvd_sub (x p : Int) : p ∣ (x % p - x) := by
  have h : x % p - x = p * (-(x / p)) := by
    have := Int.emod_add_mul_ediv x p
    rw [Int.mul_neg]; omega
  rw [h]; exact Int.dvd_mul_right p _
theorem rd_act (m : Nat → Int) (k : Nat) (p : Int) (hk : 1 ≤ k) (hm : m k = 1) (f : Nat → Int) (i n : Nat) (hi : k ≤ i) (hn : i < n) : Cg p k (act m k (rd f m k p i) n (unitV 0)) (act m k f n (unitV 0)) := by
  have h1 : Cg p k (act m k (rd f m k p i) n (unitV 0)) (act m k (vadd f (vmul (-(f i)) (shiftV (i - k) (k + 1) m))) n (unitV 0)) := by
    refine Cg.act m hk n (fun t _ => ?_) (Cg.refl _ _ _)
    unfold rd vadd vmul shiftV
    by_cases e : i - k ≤ t ∧ t ≤ i
    · rw [if_pos e, if_pos (by omega)]
      have := emod_dvd_sub (f t - f i * m (t - (i - k))) p
      rwa [show f t - f i * m (t - (i - k)) = f t + -f i * m (t - (i - k)) by rw [Int.neg_mul]; omega] at this ⊢
    · rw [if_neg e, if_neg (by omega), Int.mul_zero, Int.add_zero, Int.sub_self]; exact Int.dvd_zero p
  refine h1.trans ?_
  rw [act_coadd, act_comul, act_shift m k (i - k) m (unitV 0) n (k + 1) (by omega)]
  have h2 : Cg p k (vXn m k (i - k) (act m k m (k + 1) (unitV 0))) (vXn m k (i - k) vzero) := Cg.vXn m hk (Cg.of_eq fun t ht => act_self m k hk hm t ht) (i - k)
  have h3 : vXn m k (i - k) vzero = vzero := by
    have h := vXn_mul m k 0 vzero (i - k)
    rw [zero_vmul, zero_vmul] at h; exact h
  rw [h3] at h2
  have h4 := (Cg.refl p k (act m k f n (unitV 0))).add (h2.mul (c := -(f i)) (d := -(f i)) (by rw [Int.sub_self]; exact Int.dvd_zero p))
  rwa [vmul_zero', vadd_zero] at h4
theorem redN_act (m : Nat → Int) (k : Nat) (p : Int) (hk : 1 ≤ k) (hm : m k = 1) (N : Nat) : ∀ (n : Nat) (f : Nat → Int), k + n ≤ N → Cg p k (act m k (redN m k p n f) N (unitV 0)) (act m k f N (unitV 0))
  | 0, _, _ => Cg.refl _ _ _
  | n + 1, f, h => by
    show Cg p k (act m k (redN m k p n (rd f m k p (k + n))) N (unitV 0)) _
    exact (redN_act m k p hk hm N n _ (by omega)).trans (rd_act m k p hk hm f (k + n) N (by omega) (by omega))
theorem mulRow_act (m : Nat → Int) (k : Nat) (p : Int) (hk : 1 ≤ k) (f : Nat → Int) (x : Int) (b : Nat → Int) (i j n : Nat) (h : i + j ≤ n) : Cg p k (act m k (mulRow f x b p i j) n (unitV 0)) (vadd (act m k f n (unitV 0)) (vmul x (vXn m k i (act m k b j (unitV 0))))) := by
  have h1 : Cg p k (act m k (mulRow f x b p i j) n (unitV 0)) (act m k (vadd f (vmul x (shiftV i j b))) n (unitV 0)) := by
    refine Cg.act m hk n (fun t _ => ?_) (Cg.refl _ _ _)
    unfold mulRow vadd vmul shiftV
    by_cases e : i ≤ t ∧ t < i + j
    · rw [if_pos e, if_pos e]; exact emod_dvd_sub _ p
    · rw [if_neg e, if_neg e, Int.mul_zero, Int.add_zero, Int.sub_self]; exact Int.dvd_zero p
  rw [act_coadd, act_comul, act_shift m k i b (unitV 0) n j h] at h1
  exact h1
theorem mulN_act (m : Nat → Int) (k : Nat) (p : Int) (hk : 1 ≤ k) (a b : Nat → Int) (j n : Nat) : ∀ i, i + j ≤ n + 1 → Cg p k (act m k (mulN a b p j i) n (unitV 0)) (act m k a i (act m k b j (unitV 0)))
  | 0, _ => Cg.of_eq fun t _ => by rw [act_cozero m k (mulN a b p j 0) _ n (fun t _ => rfl)]; rfl
  | i + 1, h => by
    show Cg p k (act m k (mulRow (mulN a b p j i) (a i) b p i j) n (unitV 0)) (vadd (act m k a i (act m k b j (unitV 0))) (vmul (a i) (vXn m k i (act m k b j (unitV 0)))))
    exact (mulRow_act m k p hk _ _ _ i j n (by omega)).trans ((mulN_act m k p hk a b j n i (by omega)).add (Cg.refl _ _ _))
/-- THE PRODUCT: what is left of the product of two rows is what the one does to the other. -/
theorem prod_act (m : Nat → Int) (k : Nat) (p : Int) (hk : 1 ≤ k) (hm : m k = 1) (a b : Nat → Int) : Cg p k (redN m k p k (mulN a b p k k)) (act m k a k b) := by
  have h1 := redN_act m k p hk hm (k + k) k (mulN a b p k k) (Nat.le_refl _)
  have h2 := mulN_act m k p hk a b k (k + k) k (by omega)
  have h3 := h1.trans h2
  rw [act_cut m k _ (unitV 0) k k (fun t h1 h2 => redN_zero hm k _ t h1 h2)] at h3
  have h4 : Cg p k (redN m k p k (mulN a b p k k)) (act m k (redN m k p k (mulN a b p k k)) k (unitV 0)) := Cg.of_eq fun t ht => by rw [act_unit m k hk _ k (Nat.le_refl _) t, if_pos ht]
  have h5 : Cg p k (act m k b k (unitV 0)) b := Cg.of_eq fun t ht => by rw [act_unit m k hk b k (Nat.le_refl _) t, if_pos ht]
  exact (h4.trans h3).trans (Cg.act m hk k (fun t _ => by rw [Int.sub_self]; exact Int.dvd_zero p) h5)

end Go.Proofs.YtagpbkcnjogbgabDoor.Fd
