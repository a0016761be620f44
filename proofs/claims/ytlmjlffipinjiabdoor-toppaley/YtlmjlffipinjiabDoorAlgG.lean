/- Fermat and Frobenius. -/
import Derived.Test.YtlmjlffipinjiabDoorAlgE
/- The P-th power is a linear map: by a table of the images of 1, x, x x, .., field by field, which the kernel checks. -/
namespace Go.Proofs.YtlmjlffipinjiabDoor.Fd

/-- Of each field of the table of powers, in its order: what the P-th power makes of 1, x, x x, .. -/
def frobTab : List (Nat × Nat × Nat × List Nat) := [
  (2, 2, 3, [1, 3]),
  (2, 3, 3, [1, 4, 6]),
  (2, 3, 5, [1, 4, 7]),
  (2, 4, 3, [1, 4, 3, 12]),
  (2, 4, 9, [1, 4, 9, 15]),
  (2, 4, 15, [1, 4, 15, 2]),
  (2, 5, 5, [1, 4, 16, 10, 13]),
  (2, 5, 9, [1, 4, 16, 18, 26]),
  (2, 5, 15, [1, 4, 16, 30, 9]),
  (2, 5, 23, [1, 4, 16, 25, 10]),
  (2, 5, 27, [1, 4, 16, 13, 15]),
  (2, 5, 29, [1, 4, 16, 7, 28]),
  (2, 6, 3, [1, 4, 16, 3, 12, 48]),
  (2, 6, 9, [1, 4, 16, 9, 36, 2]),
  (2, 6, 23, [1, 4, 16, 23, 11, 44]),
  (2, 6, 27, [1, 4, 16, 27, 55, 49]),
  (2, 6, 33, [1, 4, 16, 33, 39, 63]),
  (2, 6, 39, [1, 4, 16, 39, 53, 26]),
  (2, 6, 45, [1, 4, 16, 45, 3, 12]),
  (2, 6, 51, [1, 4, 16, 51, 42, 61]),
  (2, 6, 53, [1, 4, 16, 53, 62, 18]),
  (3, 2, 1, [1, 6]),
  (3, 2, 5, [1, 8]),
  (3, 2, 8, [1, 7]),
  (3, 3, 7, [1, 5, 13]),
  (3, 3, 8, [1, 4, 16]),
  (3, 3, 11, [1, 19, 21]),
  (3, 3, 14, [1, 25, 5]),
  (3, 3, 16, [1, 23, 10]),
  (3, 3, 19, [1, 11, 24]),
  (3, 3, 22, [1, 17, 8]),
  (3, 3, 26, [1, 13, 10]),
  (5, 2, 2, [1, 20]),
  (5, 2, 3, [1, 20]),
  (5, 2, 6, [1, 24]),
  (5, 2, 7, [1, 24]),
  (5, 2, 13, [1, 23]),
  (5, 2, 14, [1, 23]),
  (5, 2, 18, [1, 22]),
  (5, 2, 19, [1, 22]),
  (5, 2, 21, [1, 21]),
  (5, 2, 22, [1, 21]),
  (7, 2, 1, [1, 42]),
  (7, 2, 2, [1, 42]),
  (7, 2, 4, [1, 42]),
  (7, 2, 10, [1, 48]),
  (7, 2, 11, [1, 48]),
  (7, 2, 13, [1, 48]),
  (7, 2, 16, [1, 47]),
  (7, 2, 17, [1, 47]),
  (7, 2, 19, [1, 47]),
  (7, 2, 22, [1, 46]),
  (7, 2, 26, [1, 46]),
  (7, 2, 27, [1, 46]),
  (7, 2, 29, [1, 45]),
  (7, 2, 33, [1, 45]),
  (7, 2, 34, [1, 45]),
  (7, 2, 37, [1, 44]),
  (7, 2, 38, [1, 44]),
  (7, 2, 40, [1, 44]),
  (7, 2, 45, [1, 43]),
  (7, 2, 46, [1, 43]),
  (7, 2, 48, [1, 43]),
  (2, 1, 0, [1]),
  (3, 1, 0, [1]),
  (5, 1, 0, [1]),
  (7, 1, 0, [1]),
  (11, 1, 0, [1]),
  (13, 1, 0, [1]),
  (17, 1, 0, [1]),
  (19, 1, 0, [1]),
  (23, 1, 0, [1]),
  (29, 1, 0, [1]),
  (31, 1, 0, [1]),
  (37, 1, 0, [1]),
  (41, 1, 0, [1]),
  (43, 1, 0, [1]),
  (47, 1, 0, [1]),
  (53, 1, 0, [1]),
  (59, 1, 0, [1]),
  (61, 1, 0, [1])]
/-- A linear map: what it makes of an element, told by what it makes of 1, x, x x, .. -/
def linS (P : Nat) (FX : List Nat) (u : Nat → Int) (t : Nat) : Nat → Int
  | 0 => 0
  | j + 1 => linS P FX u t j + u j * digF (FX.getD j 0) P t
def linF (P K : Nat) (FX : List Nat) (v : Nat) : Nat → Int := fun t => linS P FX (digF v P) t K % P
def linQ (P K : Nat) (FX : List Nat) (v : Nat) : Nat := (hor (linF P K FX v) P K K).toNat
def frobChk : (Nat × Nat × Nat × Nat × Nat × List Nat) × (Nat × Nat × Nat × List Nat) → Bool
  | ((P, K, n, _, _, L), (P', K', n', FX)) => P == P' && K == K' && n == n' && (List.range (P ^ K - 1)).all fun i => linQ P K FX (L.getD i 0) == L.getD (i * P % (P ^ K - 1)) 0
theorem frob_ok : (genTab.zip frobTab).all frobChk = true := by decide +kernel
theorem frob_len : genTab.length ≤ frobTab.length := by decide +kernel

end Go.Proofs.YtlmjlffipinjiabDoor.Fd

namespace Go.Proofs.YtlmjlffipinjiabDoor.Fd

/-- The row of the table of powers that is a given field's. -/
theorem row_of_irr {P K : Nat} {l : List Int} (hp : isPrimeB (P : Int) = true) (hK : 1 ≤ K) (hPK : P ^ K ≤ 64) (hl : l.length = K) (hin : inL (P : Int) l) (hirr : irrP (monL l) K P) : ∃ n s c L, (P, K, n, s, c, L) ∈ genTab ∧ (K = 1 ∨ ∀ t, t < K → monL l t = digF n P t) := by
  have hP := (prime_bd hp).1
  have hP2 : 2 ≤ P := by omega
  have hK6 := deg_le hP2 hPK
  have hmin := monL_in (l := l) (p := (P : Int)) (by omega) hin
  obtain ⟨n, Hn⟩ : ∃ n, n = (hor (monL l) P K K).toNat := ⟨_, rfl⟩
  have hdig : ∀ t, t < K → monL l t = digF n P t := fun t ht => by rw [Hn, digF_hor hP2 hmin t ht]
  have hn : n < P ^ K := by rw [Hn]; exact hor_lt hP2 hmin
  have hcov : covered P K n = true := by
    have h := covered_all
    rw [List.all_eq_true] at h
    have h2 := h (P : Int) (by unfold isPrimeB at hp; rwa [List.contains_iff_mem] at hp)
    rw [List.all_eq_true] at h2
    have h3 := h2 K (by simp; omega)
    rw [Int.toNat_natCast] at h3
    simp only [Bool.or_eq_true, beq_iff_eq, decide_eq_true_eq, List.all_eq_true, List.mem_range] at h3
    rcases h3 with (h3 | h3) | h3
    · omega
    · omega
    · exact h3 n hn
  unfold covered at hcov
  rw [Bool.or_eq_true, List.any_eq_true, List.any_eq_true] at hcov
  rcases hcov with ⟨⟨P', K', n', s, c, L⟩, hmem, hk⟩ | ⟨⟨P', K', n', d, b⟩, hmem, hk⟩
  · simp only [Bool.and_eq_true, beq_iff_eq, Bool.or_eq_true] at hk
    obtain ⟨⟨rfl, rfl⟩, hn'⟩ := hk
    refine ⟨n', s, c, L, hmem, ?_⟩
    rcases hn' with rfl | h1
    · exact .inr hdig
    · exact .inl h1
  · simp only [Bool.and_eq_true, beq_iff_eq] at hk
    obtain ⟨⟨rfl, rfl⟩, rfl⟩ := hk
    have hchk := List.all_eq_true.1 red_ok _ hmem
    unfold redChk at hchk
    simp only [Bool.and_eq_true, decide_eq_true_eq, beq_iff_eq, List.all_eq_true, List.mem_range] at hchk
    obtain ⟨⟨⟨hz, hd1⟩, hd2⟩, hb⟩ := hchk
    have hll : digL n' P' K' = l := by
      apply List.ext_getElem
      · rw [digL_length, hl]
      · intro t h1 h2
        have h3 := hdig t (by omega)
        rw [monL_low l t h2] at h3
        have h4 := digL_at n' P' K' t (by omega)
        rw [← h3] at h4
        simpa [h1, h2] using h4
    rw [hll] at hz
    have := (div_same hP2 hl hmin (by omega) (by omega) hb).1 (fun t ht => hz t (by omega))
    exact absurd this (hirr d hd1 hd2 b hb)
/-- What the row says: a list of the powers of one element, which are all but 0. -/
structure PowTab (P K : Nat) (m : Nat → Int) (L : List Nat) : Prop extends Ring1 P K m where
  len : L.length = P ^ K - 1
  pows : ∃ g, g < P ^ K ∧ (∀ i, i < P ^ K - 1 → L.getD i 0 = powQ P K m g i) ∧ powQ P K m g (P ^ K - 1) = 1
  all : ∀ a, 1 ≤ a → a < P ^ K → ∃ i, i < P ^ K - 1 ∧ L.getD i 0 = a
theorem tab_of_row {P K n s c : Nat} {L : List Nat} {m : Nat → Int} (hR : Ring1 P K m) (hm : K = 1 ∨ ∀ t, t < K → m t = digF n P t) (h : genChk (P, K, n, s, c, L) = true) : PowTab P K m L := by
  unfold genChk at h
  simp only [Bool.and_eq_true, decide_eq_true_eq, Bool.or_eq_true, beq_iff_eq, List.all_eq_true, List.mem_range, List.contains_iff_mem] at h
  obtain ⟨⟨⟨⟨hL, hall⟩, hc⟩, hs⟩, hK⟩ := h
  have hstep : ∀ i, powQ P K m (c + s * P) (i + 1) = stepQ P K n s c (powQ P K m (c + s * P) i) := fun i => step_eq hR hm hc hs hK _
  have hat := pwList_at (stepQ P K n s c) (powQ P K m (c + s * P)) hstep (P ^ K) 0
  have hlen := pwList_length (stepQ P K n s c) (P ^ K) 1
  have h1 := one_lt hR
  have hL' : pwList (stepQ P K n s c) (P ^ K) (powQ P K m (c + s * P) 0) = L ++ [1] := hL
  rw [hL'] at hat
  rw [hL, List.length_append, List.length_singleton] at hlen
  refine ⟨hR, by omega, ⟨c + s * P, lin_small hR.two hR.one hc hs hK, fun i hi => ?_, ?_⟩, fun a ha1 ha => ?_⟩
  · have h2 := hat i (by omega)
    have hi' : i < L.length := by omega
    rw [List.getElem?_append_left hi', Nat.zero_add] at h2
    rw [List.getD_eq_getElem?_getD, h2]; rfl
  · have h2 := hat (P ^ K - 1) (by omega)
    rw [List.getElem?_append_right (by omega), show P ^ K - 1 - L.length = 0 by omega, Nat.zero_add] at h2
    exact (Option.some.inj h2).symm
  · have hmem := hall (a - 1) (by omega)
    rw [show a - 1 + 1 = a by omega] at hmem
    obtain ⟨i, hi, e⟩ := List.mem_iff_getElem.1 hmem
    exact ⟨i, by omega, by rw [List.getD_eq_getElem?_getD, List.getElem?_eq_getElem hi, e]; rfl⟩
section
variable {P K : Nat} {m : Nat → Int}
theorem powQ_period (hR : Ring1 P K m) {g d : Nat} (h : powQ P K m g d = 1) (i : Nat) : powQ P K m g i = powQ P K m g (i % d) := by
  have e := Nat.div_add_mod i d
  conv => lhs; rw [← e]
  rw [powQ_add hR, ← powQ_mul hR, h, powQ_one hR, one_mulQ hR (powQ_lt hR g _)]
theorem powQ_zero_pos (hR : Ring1 P K m) (n : Nat) (h : 0 < n) : powQ P K m 0 n = 0 := by
  obtain ⟨j, rfl⟩ : ∃ j, n = j + 1 := ⟨n - 1, by omega⟩
  show mulQ P K m 0 _ = 0
  rw [mulQ_comm hR, mulQ_zero hR]
theorem fermat_all (hF : FieldQ P K m) {a : Nat} (ha : a < P ^ K) : powQ P K m a (P ^ K) = a := by
  have h1 := one_lt hF.toRing1
  by_cases h0 : a = 0
  · subst h0; exact powQ_zero_pos hF.toRing1 _ (by omega)
  · have h := fermat hF (by omega) ha
    rw [show P ^ K = 1 + (P ^ K - 1) by omega, powQ_add hF.toRing1, h, powQ_first hF.toRing1 ha, mulQ_one hF.toRing1 ha]
theorem linF_in (hP : 2 ≤ P) (FX : List Nat) (v : Nat) : inP P (linF P K FX v) := fun _ => ⟨Int.emod_nonneg _ (by omega), Int.emod_lt_of_pos _ (by omega)⟩
theorem linQ_lt (hR : Ring1 P K m) (FX : List Nat) (v : Nat) : linQ P K FX v < P ^ K := hor_lt hR.two (linF_in hR.two FX v)
theorem linS_cg (P : Nat) (FX : List Nat) (t : Nat) {u v : Nat → Int} : ∀ k, (∀ j, j < k → (P : Int) ∣ (u j - v j)) → (P : Int) ∣ (linS P FX u t k - linS P FX v t k)
  | 0, _ => by show (P : Int) ∣ 0 - 0; exact Int.dvd_zero _
  | k + 1, h => by
    have h1 := linS_cg P FX t k (fun j hj => h j (by omega))
    have h2 : (P : Int) ∣ (u k - v k) * digF (FX.getD k 0) P t := Int.dvd_mul_of_dvd_left (h k (by omega))
    have h3 := Int.dvd_add h1 h2
    rwa [show linS P FX u t k - linS P FX v t k + (u k - v k) * digF (FX.getD k 0) P t = linS P FX u t (k + 1) - linS P FX v t (k + 1) by
      show _ = (linS P FX u t k + u k * digF (FX.getD k 0) P t) - (linS P FX v t k + v k * digF (FX.getD k 0) P t)
      rw [Int.sub_mul]; omega] at h3
theorem linS_add (P : Nat) (FX : List Nat) (t : Nat) (u v : Nat → Int) : ∀ k, linS P FX (vadd u v) t k = linS P FX u t k + linS P FX v t k
  | 0 => rfl
  | k + 1 => by
    show linS P FX (vadd u v) t k + (u k + v k) * digF (FX.getD k 0) P t = (linS P FX u t k + u k * digF (FX.getD k 0) P t) + (linS P FX v t k + v k * digF (FX.getD k 0) P t)
    rw [linS_add P FX t u v k, Int.add_mul]; omega
theorem linQ_vec (hR : Ring1 P K m) (FX : List Nat) (v : Nat) : Cg P K (digF (linQ P K FX v) P) (fun t => linS P FX (digF v P) t K) := fun t ht => by
  unfold linQ
  rw [digF_hor hR.two (linF_in hR.two FX v) t ht]
  exact emod_dvd_sub _ _
theorem linQ_add (hR : Ring1 P K m) (FX : List Nat) (a b : Nat) : linQ P K FX (addQ P K a b) = addQ P K (linQ P K FX a) (linQ P K FX b) := by
  refine vec_inj hR (linQ_lt hR FX _) (addQ_lt hR _ _) ((linQ_vec hR FX _).trans ?_)
  have h1 : Cg P K (fun t => linS P FX (digF (addQ P K a b) P) t K) (vadd (fun t => linS P FX (digF a P) t K) (fun t => linS P FX (digF b P) t K)) := fun t _ => by
    have h := linS_cg P FX t K (addQ_vec hR a b)
    rw [linS_add] at h
    exact h
  exact h1.trans (((linQ_vec hR FX a).symm.add (linQ_vec hR FX b).symm).trans (addQ_vec hR _ _).symm)
theorem linQ_zero (hR : Ring1 P K m) (FX : List Nat) : linQ P K FX 0 = 0 := by
  refine vec_inj hR (linQ_lt hR FX _) (Nat.lt_trans (by decide) (one_lt hR)) ((linQ_vec hR FX 0).trans (Cg.of_eq fun t _ => ?_))
  rw [digF_zero]
  have : ∀ k, linS P FX (digF 0 P) t k = 0 := by
    intro k
    induction k with
    | zero => rfl
    | succ k ih => show linS P FX (digF 0 P) t k + digF 0 P k * _ = 0; rw [ih, digF_zero, Int.zero_mul]; rfl
  exact this K
end
/-- The P-th power is a linear map. -/
theorem frob_lin {P K : Nat} {l : List Int} (hp : isPrimeB (P : Int) = true) (hK : 1 ≤ K) (hPK : P ^ K ≤ 64) (hl : l.length = K) (hin : inL (P : Int) l) (hirr : irrP (monL l) K P) (hR : Ring1 P K (monL l)) : ∃ FX, ∀ a, a < P ^ K → powQ P K (monL l) a P = linQ P K FX a := by
  obtain ⟨n, s, c, L, hmem, hm⟩ := row_of_irr hp hK hPK hl hin hirr
  have hT := tab_of_row hR hm (List.all_eq_true.1 gen_ok _ hmem)
  obtain ⟨i, hi, e⟩ := List.mem_iff_getElem.1 hmem
  have hi2 : i < frobTab.length := Nat.lt_of_lt_of_le hi frob_len
  have hz : (genTab.zip frobTab)[i]'(by rw [List.length_zip]; omega) = ((P, K, n, s, c, L), frobTab[i]) := by rw [List.getElem_zip, e]
  have hchk := List.all_eq_true.1 frob_ok _ (List.getElem_mem (l := genTab.zip frobTab) (n := i) (by rw [List.length_zip]; omega))
  rw [hz] at hchk
  obtain ⟨⟨P', K', n', FX⟩, hf⟩ : ∃ r, r = frobTab[i] := ⟨_, rfl⟩
  rw [← hf] at hchk
  unfold frobChk at hchk
  simp only [Bool.and_eq_true, beq_iff_eq, List.all_eq_true, List.mem_range] at hchk
  obtain ⟨_, hall⟩ := hchk
  refine ⟨FX, fun a ha => ?_⟩
  by_cases h0 : a = 0
  · subst h0
    rw [powQ_zero_pos hR P (by have := hR.two; omega), linQ_zero hR]
  · obtain ⟨j, hj, ej⟩ := hT.all a (by omega) ha
    obtain ⟨g, _, hpow, hone⟩ := hT.pows
    have h1 := one_lt hR
    have h := hall j hj
    rw [ej, hpow _ (Nat.mod_lt _ (by omega)), ← powQ_period hR hone, ← powQ_mul hR, ← hpow j hj, ej] at h
    exact h.symm
theorem frobenius {P K : Nat} {l : List Int} (hp : isPrimeB (P : Int) = true) (hK : 1 ≤ K) (hPK : P ^ K ≤ 64) (hl : l.length = K) (hin : inL (P : Int) l) (hirr : irrP (monL l) K P) (hR : Ring1 P K (monL l)) {a b : Nat} (ha : a < P ^ K) (hb : b < P ^ K) :
    powQ P K (monL l) (addQ P K a b) P = addQ P K (powQ P K (monL l) a P) (powQ P K (monL l) b P) := by
  obtain ⟨FX, h⟩ := frob_lin hp hK hPK hl hin hirr hR
  rw [h _ (addQ_lt hR a b), h a ha, h b hb, linQ_add hR]

end Go.Proofs.YtlmjlffipinjiabDoor.Fd
