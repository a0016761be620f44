/- Traces add, lie below the prime, and are taken as often each. -/
import Derived.Test.YtgdkfbgehbdkjabDoorAlgH
import Derived.Test.YtgdkfbgehbdkjabDoorW49
import Derived.Test.YtgdkfbgehbdkjabDoorW37
namespace Go.Proofs.YtgdkfbgehbdkjabDoor.Fd

section
variable {P K : Nat} {m : Nat → Int}
theorem trL_eq (hR : Ring1 P K m) {FX : List Nat} (hf : ∀ a, a < P ^ K → powQ P K m a P = linQ P K FX a) : ∀ n s a, a < P ^ K → trQ P K m n s a = trL P K FX n s a
  | 0, _, _, _ => rfl
  | n + 1, s, a, ha => by
    show trQ P K m n (addQ P K s a) (powQ P K m a P) = trL P K FX n (addQ P K s a) (linQ P K FX a)
    rw [hf a ha]
    exact trL_eq hR hf n _ _ (linQ_lt hR FX a)
theorem addQ_four (hR : Ring1 P K m) (a b c d : Nat) : addQ P K (addQ P K a b) (addQ P K c d) = addQ P K (addQ P K a c) (addQ P K b d) := by
  rw [addQ_assoc hR, ← addQ_assoc hR b c d, addQ_comm hR b c, addQ_assoc hR c b d, ← addQ_assoc hR a c]
theorem trL_add (hR : Ring1 P K m) (FX : List Nat) : ∀ n s t a b, trL P K FX n (addQ P K s t) (addQ P K a b) = addQ P K (trL P K FX n s a) (trL P K FX n t b)
  | 0, _, _, _, _ => rfl
  | n + 1, s, t, a, b => by
    show trL P K FX n (addQ P K (addQ P K s t) (addQ P K a b)) (linQ P K FX (addQ P K a b)) = _
    rw [addQ_four hR, linQ_add hR, trL_add hR FX n]
    rfl
theorem addQ_low (hR : Ring1 P K m) {u v : Nat} (hu : u < P) (hv : v < P) : addQ P K u v = (u + v) % P := by
  have hP := hR.two
  have hle : P ≤ P ^ K := Nat.le_self_pow (by have := hR.one; omega) P
  have hlt : (u + v) % P < P := Nat.mod_lt _ (by omega)
  refine vec_inj hR (addQ_lt hR u v) (by omega) ((addQ_vec hR u v).trans fun t _ => ?_)
  have h0 : ∀ x, x < P → 1 ≤ t → digF x P t = 0 := fun x hx ht => digF_small (k := 1) (by rw [Nat.pow_one]; exact hx) hP t ht
  have h1 : ∀ x, x < P → digF x P 0 = (x : Int) := fun x hx => by unfold digF; simp [Nat.mod_eq_of_lt hx]
  show (P : Int) ∣ (digF u P t + digF v P t) - digF ((u + v) % P) P t
  by_cases ht : t = 0
  · subst ht
    rw [h1 u hu, h1 v hv, h1 _ hlt]
    rw [Int.natCast_emod, Int.natCast_add]
    exact Int.dvd_of_emod_eq_zero (by rw [Int.sub_emod, Int.emod_emod_of_dvd _ (Int.dvd_refl _), Int.sub_self]; rfl)
  · rw [h0 u hu (by omega), h0 v hv (by omega), h0 _ hlt (by omega)]
    exact Int.dvd_zero _
end

/-- All that is asked of traces. -/
theorem good_tr {P K : Nat} {l : List Int} (hG : GoodF P K l) : ∃ T : List Nat, (∀ a, a < P ^ K → trQ P K (monL l) K 0 a = T.getD a 0) ∧ (∀ a, T.getD a 0 < P) ∧
    (∀ a b, a < P ^ K → b < P ^ K → T.getD (addQ P K a b) 0 = (T.getD a 0 + T.getD b 0) % P) ∧ ∀ u, u < P → cntTo T u (P ^ K) * P = P ^ K := by
  obtain ⟨h0, h1, h2, h3⟩ := hG.fault.ok
  obtain ⟨P', K', e1, e2, hP, hP', hK, hK', hPK, hq, hlen, hmi, hmK, hpr⟩ := good_parts hG.fault
  obtain rfl : P = P' := by omega
  obtain rfl : K = K' := by omega
  rw [Int.toNat_natCast, Int.toNat_natCast] at h3
  have hR := hG.field.toRing1
  obtain ⟨n, s, c, L, hmem, hm⟩ := row_of_irr hpr hK hPK hlen h2 h3
  have hT := tab_of_row hR hm (List.all_eq_true.1 gen_ok _ hmem)
  obtain ⟨i, hi, e⟩ := List.mem_iff_getElem.1 hmem
  have hi2 : i < frobTab.length := Nat.lt_of_lt_of_le hi frob_len
  have hi3 : i < trTab.length := Nat.lt_of_lt_of_le hi tr_len
  have hz : (genTab.zip frobTab)[i]'(by rw [List.length_zip]; omega) = ((P, K, n, s, c, L), frobTab[i]) := by rw [List.getElem_zip]; exact congrArg (fun x => (x, frobTab[i])) e
  have hz3 : (genTab.zip (frobTab.zip trTab))[i]'(by rw [List.length_zip, List.length_zip]; omega) = ((P, K, n, s, c, L), frobTab[i], trTab[i]) := by rw [List.getElem_zip, List.getElem_zip]; exact congrArg (fun x => (x, frobTab[i], trTab[i])) e
  have hchk := List.all_eq_true.1 frob_ok _ (List.getElem_mem (l := genTab.zip frobTab) (n := i) (by rw [List.length_zip]; omega))
  have htr := List.all_eq_true.1 tr_ok _ (List.getElem_mem (l := genTab.zip (frobTab.zip trTab)) (n := i) (by rw [List.length_zip, List.length_zip]; omega))
  rw [hz] at hchk
  rw [hz3] at htr
  obtain ⟨⟨P', K', n', FX⟩, hf⟩ : ∃ r, r = frobTab[i] := ⟨_, rfl⟩
  obtain ⟨T, hTT⟩ : ∃ r, r = trTab[i] := ⟨_, rfl⟩
  rw [← hf] at hchk htr
  rw [← hTT] at htr
  unfold frobChk at hchk
  unfold trChk at htr
  simp only [Bool.and_eq_true, beq_iff_eq, List.all_eq_true, List.mem_range, decide_eq_true_eq] at hchk htr
  obtain ⟨_, hall⟩ := hchk
  obtain ⟨⟨ht1, ht2⟩, ht3⟩ := htr
  have hlin : ∀ a, a < P ^ K → powQ P K (monL l) a P = linQ P K FX a := fun a ha => by
    by_cases h0 : a = 0
    · subst h0
      rw [powQ_zero_pos hR P (by have := hR.two; omega), linQ_zero hR]
    · obtain ⟨j, hj, ej⟩ := hT.all a (by omega) ha
      obtain ⟨g, _, hpow, hone⟩ := hT.pows
      have h1 := one_lt hR
      have h := hall j hj
      rw [ej, hpow _ (Nat.mod_lt _ (by omega)), ← powQ_period hR hone, ← powQ_mul hR, ← hpow j hj, ej] at h
      exact h.symm
  have hlow : ∀ a, T.getD a 0 < P := fun a => by
    rw [List.getD_eq_getElem?_getD]
    by_cases h : a < T.length
    · rw [List.getElem?_eq_getElem h]; exact ht2 _ (List.getElem_mem h)
    · rw [List.getElem?_eq_none (by omega)]; show 0 < P; have := hR.two; omega
  refine ⟨T, fun a ha => (trL_eq hR hlin K 0 a ha).trans (ht1 a ha), hlow, fun a b ha hb => ?_, ht3⟩
  rw [← ht1 _ (addQ_lt hR a b), ← ht1 a ha, ← ht1 b hb]
  have h := trL_add hR FX K 0 0 a b
  rw [addQ_zero hR (Nat.lt_trans (by decide) (one_lt hR))] at h
  rw [h]
  exact addQ_low hR (by rw [ht1 a ha]; exact hlow a) (by rw [ht1 b hb]; exact hlow b)

end Go.Proofs.YtgdkfbgehbdkjabDoor.Fd
