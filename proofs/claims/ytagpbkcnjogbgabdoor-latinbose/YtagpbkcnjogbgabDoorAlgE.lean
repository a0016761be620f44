/- A field has an element whose powers are all but 0; powers; inverses. -/
import Derived.Test.YtagpbkcnjogbgabDoorAlgD
namespace Go.Proofs.YtagpbkcnjogbgabDoor.Fd

theorem digF_lin0 {P c s : Nat} (hc : c < P) : digF (c + s * P) P 0 = c := by
  unfold digF
  rw [Nat.pow_zero, Nat.div_one, Nat.add_mul_mod_self_right, Nat.mod_eq_of_lt hc]
theorem digF_lin1 {P c s : Nat} (hP : 2 ≤ P) (hc : c < P) (hs : s < P) : digF (c + s * P) P 1 = s := by
  unfold digF
  rw [Nat.pow_one, Nat.add_mul_div_right _ _ (by omega), Nat.div_eq_of_lt hc, Nat.zero_add, Nat.mod_eq_of_lt hs]
theorem lin_lt {P c s : Nat} (hc : c < P) (hs : s < P) : c + s * P < P ^ 2 := by
  have h : (s + 1) * P ≤ P * P := Nat.mul_le_mul_right P hs
  rw [Nat.add_mul] at h
  rw [Nat.pow_two]; omega
theorem digF_lin2 {P c s : Nat} (hP : 2 ≤ P) (hc : c < P) (hs : s < P) (t : Nat) (ht : 2 ≤ t) : digF (c + s * P) P t = 0 := digF_small (lin_lt hc hs) hP t ht
section
variable {P K : Nat} {m : Nat → Int}
theorem stepF_in (hP : 2 ≤ P) (n s c v : Nat) : inP P (stepF P K n s c v) := fun _ => ⟨Int.emod_nonneg _ (by omega), Int.emod_lt_of_pos _ (by omega)⟩
theorem act_lin (hR : Ring1 P K m) {c s : Nat} (hc : c < P) (hs : s < P) (hK : 2 ≤ K ∨ s = 0) (u : Nat → Int) (t : Nat) : act m K (digF (c + s * P) P) K u t = (s : Int) * vX m K u t + c * u t := by
  have hP := hR.two
  by_cases h1 : K = 1
  · have hs0 : s = 0 := by omega
    subst h1 hs0
    show 0 + digF (c + 0 * P) P 0 * u t = _
    rw [digF_lin0 hc]
    simp
  · have hK1 := hR.one
    obtain ⟨j, rfl⟩ : ∃ j, K = 2 + j := ⟨K - 2, by omega⟩
    rw [act_cut m (2 + j) (digF (c + s * P) P) u 2 j (fun t h _ => digF_lin2 hP hc hs t h)]
    show (0 + digF (c + s * P) P 0 * u t) + digF (c + s * P) P 1 * vX m (2 + j) u t = _
    rw [digF_lin0 hc, digF_lin1 hP hc hs]; omega
theorem step_eq (hR : Ring1 P K m) {n c s : Nat} (hm : K = 1 ∨ ∀ t, t < K → m t = digF n P t) (hc : c < P) (hs : s < P) (hK : 2 ≤ K ∨ s = 0) (v : Nat) : mulQ P K m (c + s * P) v = stepQ P K n s c v := by
  refine vec_inj hR (mulQ_lt hR _ _) (hor_lt hR.two (stepF_in hR.two n s c v)) ((mulQ_vec hR _ v).trans (Cg.symm ?_))
  intro t ht
  unfold stepQ
  rw [digF_hor hR.two (stepF_in hR.two n s c v) t ht, act_lin hR hc hs hK]
  unfold stepF
  have e : (s : Int) * ((if t = 0 then 0 else digF v P (t - 1)) - digF v P (K - 1) * digF n P t) = s * vX m K (digF v P) t := by
    rcases hm with h1 | hm
    · have : s = 0 := by omega
      subst this; simp
    · unfold vX; rw [hm t ht]
  rw [e]
  exact emod_dvd_sub _ _

/-- The product of n factors a. -/
def powQ (P K : Nat) (m : Nat → Int) (a : Nat) : Nat → Nat
  | 0 => 1
  | n + 1 => mulQ P K m a (powQ P K m a n)
theorem one_lt (hR : Ring1 P K m) : 1 < P ^ K := by
  have h1 : P ^ 1 ≤ P ^ K := Nat.pow_le_pow_right (by have := hR.two; omega) hR.one
  have := hR.two
  rw [Nat.pow_one] at h1; omega
theorem powQ_lt (hR : Ring1 P K m) (a : Nat) : ∀ n, powQ P K m a n < P ^ K
  | 0 => one_lt hR
  | _ + 1 => mulQ_lt hR _ _
theorem one_mulQ (hR : Ring1 P K m) {a : Nat} (ha : a < P ^ K) : mulQ P K m 1 a = a := by rw [mulQ_comm hR, mulQ_one hR ha]
theorem powQ_add (hR : Ring1 P K m) (a i : Nat) : ∀ j, powQ P K m a (i + j) = mulQ P K m (powQ P K m a i) (powQ P K m a j)
  | 0 => (mulQ_one hR (powQ_lt hR a i)).symm
  | j + 1 => by
    show mulQ P K m a (powQ P K m a (i + j)) = mulQ P K m (powQ P K m a i) (mulQ P K m a (powQ P K m a j))
    rw [powQ_add hR a i j, ← mulQ_assoc hR, ← mulQ_assoc hR, mulQ_comm hR a]
theorem powQ_mul (hR : Ring1 P K m) (a i : Nat) : ∀ j, powQ P K m (powQ P K m a i) j = powQ P K m a (i * j)
  | 0 => rfl
  | j + 1 => by
    show mulQ P K m (powQ P K m a i) (powQ P K m (powQ P K m a i) j) = _
    rw [powQ_mul hR a i j, Nat.mul_succ, Nat.add_comm (i * j) i, powQ_add hR]
theorem powQ_one (hR : Ring1 P K m) : ∀ n, powQ P K m 1 n = 1
  | 0 => rfl
  | n + 1 => by show mulQ P K m 1 (powQ P K m 1 n) = 1; rw [powQ_one hR n]; exact mulQ_one hR (one_lt hR)
theorem powQ_first (hR : Ring1 P K m) {a : Nat} (ha : a < P ^ K) : powQ P K m a 1 = a := mulQ_one hR ha
theorem mulQ_zero (hR : Ring1 P K m) (a : Nat) : mulQ P K m a 0 = 0 := by
  refine vec_inj hR (mulQ_lt hR _ _) (Nat.lt_trans (by decide) (one_lt hR)) ((mulQ_vec hR a 0).trans ?_)
  have e : digF 0 P = vzero := funext fun t => digF_zero P t
  rw [e, act_zero]; exact Cg.refl _ _ _
end

/-- A field: a ring with an element whose powers are all but 0. -/
structure FieldQ (P K : Nat) (m : Nat → Int) : Prop extends Ring1 P K m where
  gen : ∃ g, g < P ^ K ∧ (∀ a, 1 ≤ a → a < P ^ K → ∃ i, i < P ^ K - 1 ∧ powQ P K m g i = a) ∧ powQ P K m g (P ^ K - 1) = 1

theorem pwList_at (f : Nat → Nat) (h : Nat → Nat) (hs : ∀ i, h (i + 1) = f (h i)) : ∀ (N j i : Nat), i < N → (pwList f N (h j))[i]? = some (h (j + i))
  | 0, _, _, hi => absurd hi (by omega)
  | N + 1, j, 0, _ => rfl
  | N + 1, j, i + 1, hi => by
    show (pwList f N (f (h j)))[i]? = _
    rw [← hs j, pwList_at f h hs N (j + 1) i (by omega)]
    congr 2; omega
theorem pwList_length (f : Nat → Nat) : ∀ (N v : Nat), (pwList f N v).length = N
  | 0, _ => rfl
  | N + 1, v => by show (pwList f N (f v)).length + 1 = N + 1; rw [pwList_length f N (f v)]
theorem field_of_row {P K n s c : Nat} {L : List Nat} {m : Nat → Int} (hR : Ring1 P K m) (hm : K = 1 ∨ ∀ t, t < K → m t = digF n P t) (h : genChk (P, K, n, s, c, L) = true) (hg : c + s * P < P ^ K) : FieldQ P K m := by
  unfold genChk at h
  simp only [Bool.and_eq_true, decide_eq_true_eq, Bool.or_eq_true, beq_iff_eq, List.all_eq_true, List.mem_range, List.contains_iff_mem] at h
  obtain ⟨⟨⟨⟨hL, hall⟩, hc⟩, hs⟩, hK⟩ := h
  have hstep : ∀ i, powQ P K m (c + s * P) (i + 1) = stepQ P K n s c (powQ P K m (c + s * P) i) := fun i => step_eq hR hm hc hs hK _
  have hat := pwList_at (stepQ P K n s c) (powQ P K m (c + s * P)) hstep (P ^ K) 0
  have hlen := pwList_length (stepQ P K n s c) (P ^ K) 1
  have h1 := one_lt hR
  have hL' : pwList (stepQ P K n s c) (P ^ K) (powQ P K m (c + s * P) 0) = L ++ [1] := hL
  rw [hL'] at hat
  rw [hL, List.length_append, List.length_singleton] at hlen
  refine ⟨hR, c + s * P, hg, fun a ha1 ha => ?_, ?_⟩
  · have hmem := hall (a - 1) (by omega)
    rw [show a - 1 + 1 = a by omega] at hmem
    obtain ⟨i, hi, e⟩ := List.mem_iff_getElem.1 hmem
    refine ⟨i, by omega, ?_⟩
    have h2 := hat i (by omega)
    rw [List.getElem?_append_left hi, List.getElem?_eq_getElem hi, e, Nat.zero_add] at h2
    exact (Option.some.inj h2).symm
  · have h2 := hat (P ^ K - 1) (by omega)
    rw [List.getElem?_append_right (by omega), show P ^ K - 1 - L.length = 0 by omega, Nat.zero_add] at h2
    exact (Option.some.inj h2).symm
theorem lin_small {P K c s : Nat} (hP : 2 ≤ P) (hK1 : 1 ≤ K) (hc : c < P) (hs : s < P) (hK : 2 ≤ K ∨ s = 0) : c + s * P < P ^ K := by
  rcases hK with hK | hs0
  · exact Nat.lt_of_lt_of_le (lin_lt hc hs) (Nat.pow_le_pow_right (by omega) hK)
  · subst hs0
    have : P ^ 1 ≤ P ^ K := Nat.pow_le_pow_right (by omega) hK1
    rw [Nat.pow_one] at this; omega
/-- EVERY FIELD OF THE DOCUMENT IS ONE. -/
theorem field_of_irr {P K : Nat} {l : List Int} (hp : isPrimeB (P : Int) = true) (hK : 1 ≤ K) (hPK : P ^ K ≤ 64) (hl : l.length = K) (hin : inL (P : Int) l) (hirr : irrP (monL l) K P) : FieldQ P K (monL l) := by
  have hP := (prime_bd hp).1
  have hP2 : 2 ≤ P := by omega
  have hK6 := deg_le hP2 hPK
  have hmin := monL_in (l := l) (p := (P : Int)) (by omega) hin
  have htop := monL_top l
  rw [hl] at htop
  have hR : Ring1 P K (monL l) := ⟨hP2, hK, htop, hmin⟩
  obtain ⟨n, Hn⟩ : ∃ n, n = (hor (monL l) P K K).toNat := ⟨_, rfl⟩
  have hdig : ∀ t, t < K → monL l t = digF n P t := fun t ht => by rw [Hn, digF_hor hP2 hmin t ht]
  have hn : n < P ^ K := by rw [Hn]; exact hor_lt hP2 hmin
  have hcov : covered P K n = true := by
    have h := covered_all
    rw [List.all_eq_true] at h
    have h2 := h (P : Int) (by unfold isPrimeB at hp; rwa [List.contains_iff_mem] at hp)
    rw [List.all_eq_true] at h2
    have h3 := h2 K (by simp; omega)
    rw [Int.toNat_natCast] at h3
    simp only [Bool.or_eq_true, beq_iff_eq, decide_eq_true_eq, List.all_eq_true, List.mem_range] at h3
    rcases h3 with (h3 | h3) | h3
    · omega
    · omega
    · exact h3 n hn
  unfold covered at hcov
  rw [Bool.or_eq_true, List.any_eq_true, List.any_eq_true] at hcov
  rcases hcov with ⟨⟨P', K', n', s, c, L⟩, hmem, hk⟩ | ⟨⟨P', K', n', d, b⟩, hmem, hk⟩
  · simp only [Bool.and_eq_true, beq_iff_eq, Bool.or_eq_true] at hk
    obtain ⟨⟨rfl, rfl⟩, hn'⟩ := hk
    have hchk := List.all_eq_true.1 gen_ok _ hmem
    have hparts := hchk
    unfold genChk at hparts
    simp only [Bool.and_eq_true, decide_eq_true_eq, Bool.or_eq_true, beq_iff_eq] at hparts
    refine field_of_row (n := n') hR ?_ hchk (lin_small hP2 hK hparts.1.1.2 hparts.1.2 hparts.2)
    rcases hn' with rfl | h1
    · exact .inr hdig
    · exact .inl h1
  · simp only [Bool.and_eq_true, beq_iff_eq] at hk
    obtain ⟨⟨rfl, rfl⟩, rfl⟩ := hk
    have hchk := List.all_eq_true.1 red_ok _ hmem
    unfold redChk at hchk
    simp only [Bool.and_eq_true, decide_eq_true_eq, beq_iff_eq, List.all_eq_true, List.mem_range] at hchk
    obtain ⟨⟨⟨hz, hd1⟩, hd2⟩, hb⟩ := hchk
    have hll : digL n' P' K' = l := by
      apply List.ext_getElem
      · rw [digL_length, hl]
      · intro t h1 h2
        have h3 := hdig t (by omega)
        rw [monL_low l t h2] at h3
        have h4 := digL_at n' P' K' t (by omega)
        rw [← h3] at h4
        simpa [h1, h2] using h4
    rw [hll] at hz
    have := (div_same hP2 hl hmin (by omega) (by omega) hb).1 (fun t ht => hz t (by omega))
    exact absurd this (hirr d hd1 hd2 b hb)

section
variable {P K : Nat} {m : Nat → Int}
theorem fermat (hF : FieldQ P K m) {a : Nat} (h1 : 1 ≤ a) (ha : a < P ^ K) : powQ P K m a (P ^ K - 1) = 1 := by
  obtain ⟨g, hg, hall, hone⟩ := hF.gen
  obtain ⟨i, _, rfl⟩ := hall a h1 ha
  rw [powQ_mul hF.toRing1, Nat.mul_comm, ← powQ_mul hF.toRing1, hone, powQ_one hF.toRing1]
theorem inv_ok (hF : FieldQ P K m) {a : Nat} (h1 : 1 ≤ a) (ha : a < P ^ K) : mulQ P K m a (powQ P K m a (P ^ K - 2)) = 1 := by
  have h := one_lt hF.toRing1
  have h2 := fermat hF h1 ha
  rw [show P ^ K - 1 = (P ^ K - 2) + 1 by omega] at h2
  exact h2
end

end Go.Proofs.YtagpbkcnjogbgabDoor.Fd
