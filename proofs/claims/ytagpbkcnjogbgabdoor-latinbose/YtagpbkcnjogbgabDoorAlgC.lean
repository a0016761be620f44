/- Elements are numbers: their digits are vectors; sums and products of them keep the laws of a ring. -/
import Derived.Test.YtagpbkcnjogbgabDoorAlgB
namespace Go.Proofs.YtagpbkcnjogbgabDoor.Fd

theorem hor_dig {f : Nat → Int} {p : Int} {k : Nat} (hp : 2 ≤ p) (hf : inP p f) : ∀ n, n ≤ k → ∀ t, t < n → hor f p k n / p ^ t % p = f (k - n + t)
  | 0, _, t, h => absurd h (by omega)
  | n + 1, hn, t, h => by
    have hb := hf (k - 1 - n)
    unfold hor
    cases t with
    | zero =>
      rw [Int.pow_zero, Int.ediv_one, Int.add_comm, Int.add_mul_emod_self_right, Int.emod_eq_of_lt hb.1 hb.2]
      congr 1; omega
    | succ t =>
      rw [Int.pow_succ, Int.mul_comm (p ^ t) p, ← Int.ediv_ediv_of_nonneg (by omega)]
      have e : (hor f p k n * p + f (k - 1 - n)) / p = hor f p k n := by
        rw [Int.add_comm, Int.add_mul_ediv_right _ _ (by omega), Int.ediv_eq_zero_of_lt hb.1 hb.2, Int.zero_add]
      rw [e, hor_dig hp hf n (by omega) t (by omega)]
      congr 1; omega
theorem digF_hor {f : Nat → Int} {P K : Nat} (hP : 2 ≤ P) (hf : inP P f) (t : Nat) (ht : t < K) : digF (hor f P K K).toNat P t = f t := by
  have h := hor_dig (k := K) (show (2 : Int) ≤ P by omega) hf K (Nat.le_refl _) t ht
  have h0 := (hor_bd (k := K) (show (2 : Int) ≤ P by omega) hf K).1
  unfold digF
  rw [Int.natCast_emod, Int.natCast_ediv, Int.natCast_pow, Int.toNat_of_nonneg h0, h]
  congr 1; omega
theorem hor_digF {a P K : Nat} (hP : 2 ≤ P) (ha : a < P ^ K) : ∀ n, n ≤ K → hor (digF a P) P K n = ((a / P ^ (K - n) : Nat) : Int)
  | 0, _ => by rw [Nat.sub_zero, Nat.div_eq_of_lt ha]; rfl
  | n + 1, hn => by
    unfold hor
    rw [hor_digF hP ha n (by omega)]
    unfold digF
    rw [show K - n = (K - (n + 1)) + 1 by omega, div_succ, show K - 1 - n = K - (n + 1) by omega]
    have := Nat.div_add_mod (a / P ^ (K - (n + 1))) P
    rw [Nat.mul_comm] at this
    omega
theorem digF_inj {a b P K : Nat} (hP : 2 ≤ P) (ha : a < P ^ K) (hb : b < P ^ K) (h : ∀ t, t < K → digF a P t = digF b P t) : a = b := by
  have h1 := hor_digF hP ha K (Nat.le_refl _)
  have h2 := hor_digF hP hb K (Nat.le_refl _)
  rw [hor_congr h K (Nat.le_refl _), h2] at h1
  simp at h1
  omega
theorem eq_of_dvd {x y p : Int} (hx : 0 ≤ x ∧ x < p) (hy : 0 ≤ y ∧ y < p) (h : p ∣ (x - y)) : x = y := by
  have h1 := (Int.emod_emod_of_dvd x (Int.dvd_refl p)).symm
  have h2 : x % p = y % p := Int.emod_eq_emod_iff_emod_sub_eq_zero.2 (Int.emod_eq_zero_of_dvd h)
  rw [Int.emod_eq_of_lt hx.1 hx.2, Int.emod_eq_of_lt hy.1 hy.2] at h2
  exact h2

/-- What is asked of a field for its sums and products to be those of a ring. -/
structure Ring1 (P K : Nat) (m : Nat → Int) : Prop where
  two : 2 ≤ P
  one : 1 ≤ K
  top : m K = 1
  low : inP P m
/-- Sum and product of two elements. -/
def addQ (P K : Nat) (a b : Nat) : Nat := (hor (plusF (digF a P) (digF b P) P) P K K).toNat
def mulQ (P K : Nat) (m : Nat → Int) (a b : Nat) : Nat := (hor (redN m K P K (mulN (digF a P) (digF b P) P K K)) P K K).toNat
section
variable {P K : Nat} {m : Nat → Int}
theorem hor_lt (hP : 2 ≤ P) {f : Nat → Int} (hf : inP P f) : (hor f P K K).toNat < P ^ K := by
  obtain ⟨h0, h1⟩ := hor_bd (k := K) (show (2 : Int) ≤ P by omega) hf K
  have e : (((P ^ K : Nat)) : Int) = (P : Int) ^ K := Int.natCast_pow P K
  omega
theorem addQ_lt (hR : Ring1 P K m) (a b : Nat) : addQ P K a b < P ^ K := hor_lt hR.two (plusF_in _ _ _ (by have := hR.two; omega))
theorem mulQ_in (hR : Ring1 P K m) (a b : Nat) : inP P (redN m K P K (mulN (digF a P) (digF b P) P K K)) := redN_in (by have := hR.two; omega) K _ (mulN_in (by have := hR.two; omega) K)
theorem mulQ_lt (hR : Ring1 P K m) (a b : Nat) : mulQ P K m a b < P ^ K := hor_lt hR.two (mulQ_in hR a b)
theorem addQ_vec (hR : Ring1 P K m) (a b : Nat) : Cg P K (digF (addQ P K a b) P) (vadd (digF a P) (digF b P)) := fun t ht => by
  unfold addQ
  rw [digF_hor hR.two (plusF_in _ _ _ (by have := hR.two; omega)) t ht]
  exact emod_dvd_sub _ _
theorem mulQ_vec (hR : Ring1 P K m) (a b : Nat) : Cg P K (digF (mulQ P K m a b) P) (act m K (digF a P) K (digF b P)) := by
  have h : Cg P K (digF (mulQ P K m a b) P) (redN m K P K (mulN (digF a P) (digF b P) P K K)) := Cg.of_eq fun t ht => by
    unfold mulQ; exact digF_hor hR.two (mulQ_in hR a b) t ht
  exact h.trans (prod_act m K P hR.one hR.top _ _)
theorem vec_inj (hR : Ring1 P K m) {a b : Nat} (ha : a < P ^ K) (hb : b < P ^ K) (h : Cg P K (digF a P) (digF b P)) : a = b :=
  digF_inj hR.two ha hb fun t ht => eq_of_dvd (digF_in a P (by have := hR.two; omega) t) (digF_in b P (by have := hR.two; omega) t) (h t ht)
theorem self_dvd (a : Nat → Int) (p : Int) (n : Nat) : ∀ t, t < n → p ∣ (a t - a t) := fun t _ => by rw [Int.sub_self]; exact Int.dvd_zero p
theorem act_cg (hR : Ring1 P K m) (a : Nat → Int) {u v : Nat → Int} (h : Cg P K u v) : Cg P K (act m K a K u) (act m K a K v) := Cg.act m hR.one K (self_dvd a _ K) h
theorem act_cgl (hR : Ring1 P K m) {a b : Nat → Int} (u : Nat → Int) (h : Cg P K a b) : Cg P K (act m K a K u) (act m K b K u) := Cg.act m hR.one K h (Cg.refl _ _ _)
theorem act_one (hR : Ring1 P K m) (a : Nat → Int) : Cg P K (act m K a K (unitV 0)) a := Cg.of_eq fun t ht => by rw [act_unit m K hR.one a K (Nat.le_refl _) t, if_pos ht]
theorem act_swap (hR : Ring1 P K m) (a b : Nat → Int) : Cg P K (act m K a K b) (act m K b K a) := by
  have h1 := act_cg hR a (act_one hR b).symm
  rw [act_comm] at h1
  exact h1.trans (act_cg hR b (act_one hR a))
theorem addQ_comm (hR : Ring1 P K m) (a b : Nat) : addQ P K a b = addQ P K b a := by
  refine vec_inj hR (addQ_lt hR a b) (addQ_lt hR b a) ((addQ_vec hR a b).trans ?_)
  have e : vadd (digF a P) (digF b P) = vadd (digF b P) (digF a P) := by funext t; unfold vadd; omega
  rw [e]; exact (addQ_vec hR b a).symm
theorem addQ_assoc (hR : Ring1 P K m) (a b c : Nat) : addQ P K (addQ P K a b) c = addQ P K a (addQ P K b c) := by
  refine vec_inj hR (addQ_lt hR _ _) (addQ_lt hR _ _) ?_
  refine (addQ_vec hR _ _).trans (((addQ_vec hR a b).add (Cg.refl _ _ _)).trans ?_)
  refine Cg.trans ?_ (addQ_vec hR _ _).symm
  refine Cg.trans ?_ ((Cg.refl _ _ (digF a P)).add (addQ_vec hR b c).symm)
  exact Cg.of_eq fun t _ => by unfold vadd; omega
theorem digF_zero (P t : Nat) : digF 0 P t = 0 := by unfold digF; simp
theorem addQ_zero (hR : Ring1 P K m) {a : Nat} (ha : a < P ^ K) : addQ P K a 0 = a :=
  vec_inj hR (addQ_lt hR _ _) ha ((addQ_vec hR a 0).trans (Cg.of_eq fun t _ => by unfold vadd; rw [digF_zero]; omega))
theorem mulQ_comm (hR : Ring1 P K m) (a b : Nat) : mulQ P K m a b = mulQ P K m b a :=
  vec_inj hR (mulQ_lt hR a b) (mulQ_lt hR b a) ((mulQ_vec hR a b).trans ((act_swap hR _ _).trans (mulQ_vec hR b a).symm))
theorem mulQ_assoc (hR : Ring1 P K m) (a b c : Nat) : mulQ P K m (mulQ P K m a b) c = mulQ P K m a (mulQ P K m b c) := by
  refine vec_inj hR (mulQ_lt hR _ _) (mulQ_lt hR _ _) ?_
  -- (ab)c = c(ab) = c(a b) = a(c b) = a(b c)
  have h1 : Cg P K (digF (mulQ P K m (mulQ P K m a b) c) P) (act m K (digF c P) K (act m K (digF a P) K (digF b P))) :=
    (mulQ_vec hR _ c).trans ((act_swap hR _ _).trans (act_cg hR _ (mulQ_vec hR a b)))
  rw [act_comm] at h1
  refine h1.trans ?_
  refine Cg.trans (act_cg hR _ ((act_swap hR _ _).trans (mulQ_vec hR b c).symm)) (mulQ_vec hR a _).symm
theorem digF_one (hP : 2 ≤ P) (t : Nat) : digF 1 P t = unitV 0 t := by
  unfold digF unitV
  cases t with
  | zero => rw [Nat.pow_zero, Nat.div_one, Nat.mod_eq_of_lt (by omega)]; rfl
  | succ t =>
    have h : 1 < P ^ (t + 1) := Nat.lt_of_lt_of_le (by omega : 1 < 2 ^ 1) (Nat.le_trans (Nat.pow_le_pow_right (by decide) (by omega : 1 ≤ t + 1)) (Nat.pow_le_pow_left hP (t + 1)))
    rw [Nat.div_eq_of_lt h]; simp
theorem mulQ_one (hR : Ring1 P K m) {a : Nat} (ha : a < P ^ K) : mulQ P K m a 1 = a := by
  refine vec_inj hR (mulQ_lt hR _ _) ha ((mulQ_vec hR a 1).trans ?_)
  have e : digF 1 P = unitV 0 := funext fun t => digF_one hR.two t
  rw [e]; exact act_one hR _
theorem mulQ_add (hR : Ring1 P K m) (a b c : Nat) : mulQ P K m a (addQ P K b c) = addQ P K (mulQ P K m a b) (mulQ P K m a c) := by
  refine vec_inj hR (mulQ_lt hR _ _) (addQ_lt hR _ _) ((mulQ_vec hR a _).trans ?_)
  refine (act_cg hR _ (addQ_vec hR b c)).trans ?_
  rw [act_add]
  exact (((mulQ_vec hR a b).symm).add ((mulQ_vec hR a c).symm)).trans (addQ_vec hR _ _).symm
end

end Go.Proofs.YtagpbkcnjogbgabDoor.Fd
