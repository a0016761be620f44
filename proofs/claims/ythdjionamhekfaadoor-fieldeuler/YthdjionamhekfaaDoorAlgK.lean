/- The squares of a field are those of the table; Euler's test. -/
import Derived.Test.YthdjionamhekfaaDoorAlgJ
import Derived.Test.YthdjionamhekfaaDoorW49
import Derived.Test.YthdjionamhekfaaDoorW38a
namespace Go.Proofs.YthdjionamhekfaaDoor

/-- All that is asked of squares. -/
theorem good_sq {P K : Nat} {l : List Int} (hG : GoodF P K l) : ∃ S : List Nat, (∀ j, isSq P K (monL l) j = S.contains j) ∧
    ((List.range (P ^ K)).filter fun j => S.contains j).length = (if P ^ K % 2 = 0 then P ^ K - 1 else (P ^ K - 1) / 2) ∧
    (P ^ K % 2 = 1 → ∀ a, 1 ≤ a → a < P ^ K → S.contains a = (powQ P K (monL l) a ((P ^ K - 1) / 2) == 1)) := by
  obtain ⟨h0, h1, h2, h3⟩ := hG.fault.ok
  rw [Int.toNat_natCast, Int.toNat_natCast] at h3
  have hR := hG.field.toRing1
  have h1q := one_lt hR
  obtain ⟨n, s, c, L, hmem, hm⟩ := row_of_irr (ord_parts h0).1 hR.one hG.le64 hG.len h2 h3
  have hT := tab_of_row hR hm (List.all_eq_true.1 gen_ok _ hmem)
  obtain ⟨i, hi, e⟩ := List.mem_iff_getElem.1 hmem
  have hi2 : i < sqTab.length := Nat.lt_of_lt_of_le hi sq_len
  have hz : (genTab.zip sqTab)[i]'(by rw [List.length_zip]; omega) = ((P, K, n, s, c, L), sqTab[i]) := by rw [List.getElem_zip]; exact congrArg (fun x => (x, sqTab[i])) e
  have hchk := List.all_eq_true.1 sq_ok _ (List.getElem_mem (l := genTab.zip sqTab) (n := i) (by rw [List.length_zip]; omega))
  rw [hz] at hchk
  obtain ⟨⟨S, IX⟩, hf⟩ : ∃ r, r = sqTab[i] := ⟨_, rfl⟩
  rw [← hf] at hchk
  unfold sqChk at hchk
  simp only [Bool.and_eq_true, beq_iff_eq, List.all_eq_true, List.mem_range, decide_eq_true_eq, Bool.or_eq_true] at hchk
  obtain ⟨⟨⟨⟨⟨k1, k2⟩, k3⟩, k4⟩, k5⟩, k6⟩ := hchk
  obtain ⟨g, hg, hpow, hone⟩ := hT.pows
  have hat : ∀ i, L.getD (i % (P ^ K - 1)) 0 = powQ P K (monL l) g i := fun i => by
    rw [hpow _ (Nat.mod_lt _ (by omega)), ← powQ_period hR hone]
  have hsq : ∀ i, mulQ P K (monL l) (powQ P K (monL l) g i) (powQ P K (monL l) g i) = L.getD (2 * i % (P ^ K - 1)) 0 := fun i => by
    rw [hat, ← powQ_add hR, show i + i = 2 * i by omega]
  refine ⟨S, fun j => ?_, k5, fun hodd a ha1 ha => ?_⟩
  · rw [Bool.eq_iff_iff]
    unfold isSq foundTo
    rw [List.any_eq_true]
    constructor
    · rintro ⟨b, hb, h⟩
      simp only [Bool.and_eq_true, decide_eq_true_eq, beq_iff_eq] at h
      obtain ⟨t, ht, e⟩ := hT.all b h.1 (by simpa using hb)
      have h4 := k2 t ht
      rw [← hsq t, ← hpow t ht, e, h.2] at h4
      exact h4
    · intro h
      rw [List.contains_iff_mem, k4, List.mem_map] at h
      obtain ⟨t, ht, e⟩ := h
      have htl := k3 t ht
      refine ⟨L.getD t 0, ?_, ?_⟩
      · rw [List.mem_range, hpow t htl]; exact powQ_lt hR g t
      · simp only [Bool.and_eq_true, decide_eq_true_eq, beq_iff_eq]
        refine ⟨?_, ?_⟩
        · have hL : t < L.length := by rw [hT.len]; exact htl
          rw [List.getD_eq_getElem?_getD, List.getElem?_eq_getElem hL]
          exact k1 _ (List.getElem_mem hL)
        · rw [hpow t htl, hsq t]; exact e
  · obtain ⟨t, ht, e⟩ := hT.all a ha1 ha
    rcases k6 with h | h
    · omega
    · have h4 := h t ht
      rw [hat, e] at h4
      rw [h4, ← e, hpow t ht, powQ_mul hR]
theorem sq_len_of {P K : Nat} {m : Nat → Int} {S : List Nat} (h : ∀ j, isSq P K m j = S.contains j) (q : Nat) : (sqTo P K m q).length = ((List.range q).filter fun j => S.contains j).length := by
  unfold sqTo
  rw [List.length_map]
  congr 1
  exact List.filter_congr (fun x _ => h x)
theorem sq_mem {P K : Nat} {m : Nat → Int} {a : Nat} (ha : a < P ^ K) : ((a : Int) ∈ sqTo P K m (P ^ K)) ↔ isSq P K m a = true := by
  unfold sqTo
  rw [List.mem_map]
  constructor
  · rintro ⟨b, hb, e⟩
    obtain rfl : b = a := by omega
    exact (List.mem_filter.1 hb).2
  · intro h
    exact ⟨a, List.mem_filter.2 ⟨by simpa using ha, h⟩, rfl⟩

end Go.Proofs.YthdjionamhekfaaDoor
