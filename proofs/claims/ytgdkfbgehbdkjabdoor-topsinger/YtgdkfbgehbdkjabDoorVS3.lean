/- Singer's sets are of a level. -/
import Derived.Test.YtgdkfbgehbdkjabDoorAlgI
import Derived.Test.YtgdkfbgehbdkjabDoorV4
/- Singer's sets are of a level. -/
/- Singer's sets are of a level: by tables that the kernel checks. -/
namespace Go.Proofs.YtgdkfbgehbdkjabDoor.Fd
open Go.RowKit

/-- Of a list of powers and a list of traces: has the i-th power none? -/
def sgZ (q : Nat) (L T : List Nat) (i : Nat) : Bool := T.getD (L.getD (i % q) 0) 0 == 0
def sgC (v m k : Nat) (D : List Nat) : Bool := lvB v D && (dfN v D 1 == m && D.length == k)
def sgChk : (Nat × Nat × Nat × Nat × Nat × List Nat) × List Nat → Bool
  | ((P, K, _, _, _, L), T) => decide (K < 3) || (decide (60 < rep P K) || (((List.range (P ^ K - 1)).all fun i => sgZ (P ^ K - 1) L T i == sgZ (P ^ K - 1) L T (i % rep P K)) && sgC (rep P K) (rep P (K - 2)) (rep P (K - 1)) ((List.range (rep P K)).filter (sgZ (P ^ K - 1) L T))))
theorem sg_ok : (genTab.zip trTab).all sgChk = true := by decide +kernel

end Go.Proofs.YtgdkfbgehbdkjabDoor.Fd

namespace Go.Proofs.YtgdkfbgehbdkjabDoor.Fd
open Go.RowKit

theorem good_sg {P K : Nat} {l : List Int} (hG : GoodF P K l) (hK3 : 3 ≤ K) (hr : rep P K ≤ 60) : ∃ (Z : Nat → Bool) (g : Nat), g < P ^ K ∧ powQ P K (monL l) g (P ^ K - 1) = 1 ∧ (∀ a, 1 ≤ a → a < P ^ K → ∃ j, j < P ^ K - 1 ∧ powQ P K (monL l) g j = a) ∧
    (∀ i, (trQ P K (monL l) K 0 (powQ P K (monL l) g i) == 0) = Z i) ∧ (∀ i, Z i = Z (i % rep P K)) ∧ sgC (rep P K) (rep P (K - 2)) (rep P (K - 1)) ((List.range (rep P K)).filter Z) = true := by
  obtain ⟨h0, h1, h2, h3⟩ := hG.fault.ok
  obtain ⟨P', K', e1, e2, hP, hP', hK, hK', hPK, hq, hlen, hmi, hmK, hpr⟩ := good_parts hG.fault
  obtain rfl : P = P' := by omega
  obtain rfl : K = K' := by omega
  rw [Int.toNat_natCast, Int.toNat_natCast] at h3
  have hR := hG.field.toRing1
  obtain ⟨n, s, c, L, hmem, hm⟩ := row_of_irr hpr hK hPK hlen h2 h3
  have hT := tab_of_row hR hm (List.all_eq_true.1 gen_ok _ hmem)
  obtain ⟨i, hi, e⟩ := List.mem_iff_getElem.1 hmem
  have hi2 : i < frobTab.length := Nat.lt_of_lt_of_le hi frob_len
  have hi3 : i < trTab.length := Nat.lt_of_lt_of_le hi tr_len
  have hz : (genTab.zip frobTab)[i]'(by rw [List.length_zip]; omega) = ((P, K, n, s, c, L), frobTab[i]) := by rw [List.getElem_zip]; exact congrArg (fun x => (x, frobTab[i])) e
  have hz3 : (genTab.zip (frobTab.zip trTab))[i]'(by rw [List.length_zip, List.length_zip]; omega) = ((P, K, n, s, c, L), frobTab[i], trTab[i]) := by rw [List.getElem_zip, List.getElem_zip]; exact congrArg (fun x => (x, frobTab[i], trTab[i])) e
  have hchk := List.all_eq_true.1 frob_ok _ (List.getElem_mem (l := genTab.zip frobTab) (n := i) (by rw [List.length_zip]; omega))
  have htr := List.all_eq_true.1 tr_ok _ (List.getElem_mem (l := genTab.zip (frobTab.zip trTab)) (n := i) (by rw [List.length_zip, List.length_zip]; omega))
  rw [hz] at hchk
  rw [hz3] at htr
  obtain ⟨⟨P', K', n', FX⟩, hf⟩ : ∃ r, r = frobTab[i] := ⟨_, rfl⟩
  obtain ⟨T, hTT⟩ : ∃ r, r = trTab[i] := ⟨_, rfl⟩
  rw [← hf] at hchk htr
  rw [← hTT] at htr
  unfold frobChk at hchk
  unfold trChk at htr
  simp only [Bool.and_eq_true, beq_iff_eq, List.all_eq_true, List.mem_range, decide_eq_true_eq] at hchk htr
  obtain ⟨_, hall⟩ := hchk
  obtain ⟨⟨ht1, ht2⟩, ht3⟩ := htr
  have hlin : ∀ a, a < P ^ K → powQ P K (monL l) a P = linQ P K FX a := fun a ha => by
    by_cases h0 : a = 0
    · subst h0
      rw [powQ_zero_pos hR P (by have := hR.two; omega), linQ_zero hR]
    · obtain ⟨j, hj, ej⟩ := hT.all a (by omega) ha
      obtain ⟨g, _, hpow, hone⟩ := hT.pows
      have h1 := one_lt hR
      have h := hall j hj
      rw [ej, hpow _ (Nat.mod_lt _ (by omega)), ← powQ_period hR hone, ← powQ_mul hR, ← hpow j hj, ej] at h
      exact h.symm
  have hi4 : i < (genTab.zip trTab).length := by rw [List.length_zip]; omega
  have hz4 : (genTab.zip trTab)[i]'hi4 = ((P, K, n, s, c, L), T) := by rw [List.getElem_zip, hTT]; exact congrArg (fun x => (x, trTab[i]'hi3)) e
  have hsg := List.all_eq_true.1 sg_ok _ (List.getElem_mem (l := genTab.zip trTab) (n := i) hi4)
  rw [hz4] at hsg
  unfold sgChk at hsg
  simp only [Bool.or_eq_true, decide_eq_true_eq, Bool.and_eq_true, List.all_eq_true, List.mem_range, beq_iff_eq] at hsg
  obtain ⟨hper, hcc⟩ : (∀ i, i < P ^ K - 1 → sgZ (P ^ K - 1) L T i = sgZ (P ^ K - 1) L T (i % rep P K)) ∧ sgC (rep P K) (rep P (K - 2)) (rep P (K - 1)) ((List.range (rep P K)).filter (sgZ (P ^ K - 1) L T)) = true := by
    rcases hsg with h | h | h
    · omega
    · omega
    · exact h
  obtain ⟨g, hg, hpow, hone⟩ := hT.pows
  have h1q := one_lt hR
  have hdv : rep P K ∣ P ^ K - 1 := by
    have := rep_pow (P := P) (by have := hR.two; omega) K
    exact ⟨P - 1, by rw [Nat.mul_comm]; omega⟩
  have hZm : ∀ i, sgZ (P ^ K - 1) L T i = sgZ (P ^ K - 1) L T (i % (P ^ K - 1)) := fun i => by
    unfold sgZ
    rw [Nat.mod_mod]
  refine ⟨sgZ (P ^ K - 1) L T, g, hg, hone, fun a ha1 ha2 => ?_, fun i => ?_, fun i => ?_, hcc⟩
  · obtain ⟨j, hj, ej⟩ := hT.all a ha1 ha2
    exact ⟨j, hj, by rw [← hpow j hj]; exact ej⟩
  · have hlt : i % (P ^ K - 1) < P ^ K - 1 := Nat.mod_lt _ (by omega)
    rw [powQ_period hR hone i, (trL_eq hR hlin K 0 _ (powQ_lt hR _ _)).trans (ht1 _ (powQ_lt hR _ _)), ← hpow _ hlt]
    rfl
  · rw [hZm i, hper _ (Nat.mod_lt _ (by omega)), Nat.mod_mod_of_dvd _ hdv]
theorem root_gcd {P K R g j : Nat} {m : Nat → Int} (hR : Ring1 P K m) (ho : IsOrd P K m R (P ^ K - 1)) (hone : powQ P K m g (P ^ K - 1) = 1) (hj : powQ P K m g j = R) : Nat.gcd j (P ^ K - 1) = 1 := by
  have h1q := one_lt hR
  obtain ⟨d, hd⟩ : ∃ d, d = Nat.gcd j (P ^ K - 1) := ⟨_, rfl⟩
  have hd0 : 0 < d := by rw [hd]; exact Nat.gcd_pos_of_pos_right _ (by omega)
  obtain ⟨a, ha⟩ : d ∣ j := by rw [hd]; exact Nat.gcd_dvd_left _ _
  obtain ⟨b, hb⟩ : d ∣ P ^ K - 1 := by rw [hd]; exact Nat.gcd_dvd_right _ _
  rw [← hd]
  apply Classical.byContradiction
  intro hne
  have hb0 : 0 < b := by
    rcases Nat.eq_zero_or_pos b with e | e
    · rw [e] at hb; omega
    · exact e
  have h2 : 2 * b ≤ d * b := Nat.mul_le_mul_right _ (by omega)
  refine ho.2.2 b hb0 (by omega) ?_
  rw [← hj, powQ_mul hR, ha, show d * a * b = (P ^ K - 1) * a by rw [hb, Nat.mul_right_comm], ← powQ_mul hR, hone]
  exact powQ_one hR a

end Go.Proofs.YtgdkfbgehbdkjabDoor.Fd

namespace Go.Proofs.YtgdkfbgehbdkjabDoor
open Go.RowKit

theorem inv_cop {v j t : Nat} (hv : 2 ≤ v) (h : (j * t) % v = 1 % v) : Nat.Coprime t v := by
  have h1 : 1 % v = 1 := Nat.mod_eq_of_lt (by omega)
  rw [h1] at h
  have hd1 : Nat.gcd t v ∣ j * t := Nat.dvd_trans (Nat.gcd_dvd_left t v) (Nat.dvd_mul_left t j)
  have hd2 : Nat.gcd t v ∣ v := Nat.gcd_dvd_right t v
  have hd3 : Nat.gcd t v ∣ (j * t) % v := (Nat.dvd_mod_iff hd2).2 hd1
  rw [h] at hd3
  exact Nat.dvd_one.1 hd3
theorem back_one {v j t x : Nat} (hx : x < v) (h : (j * t) % v = 1 % v) : (j * (x * t % v)) % v = x := by
  rw [Nat.mul_mod_mod, show j * (x * t) = x * (j * t) by rw [Nat.mul_left_comm], Nat.mul_mod, h, ← Nat.mul_mod, Nat.mul_one, Nat.mod_eq_of_lt hx]
theorem sing_perm {v j : Nat} {Z : Nat → Bool} (hv : 2 ≤ v) (hc : Nat.Coprime j v) : ∃ t, Nat.Coprime t v ∧ ((List.range v).filter fun i => Z (j * i % v)).Perm (((List.range v).filter Z).map (mvN v t 0)) := by
  obtain ⟨t, ht, hjt⟩ := mul_onto (by omega) hc 1
  have hct := inv_cop hv hjt
  have hp : Pts v ((List.range v).filter Z) := ⟨List.nodup_range.filter _, fun x hx => List.mem_range.1 (List.mem_filter.1 hx).1⟩
  refine ⟨t, hct, (List.perm_ext_iff_of_nodup (List.nodup_range.filter _) (mv_pts (s := 0) (by omega) hp hct).nd).2 fun x => ?_⟩
  rw [List.mem_filter, List.mem_range, List.mem_map]
  constructor
  · rintro ⟨hx, hz⟩
    refine ⟨j * x % v, List.mem_filter.2 ⟨List.mem_range.2 (Nat.mod_lt _ (by omega)), hz⟩, ?_⟩
    unfold mvN
    rw [Nat.add_zero, Nat.mod_mul_mod, show j * x * t = x * (j * t) by rw [Nat.mul_right_comm, Nat.mul_comm], Nat.mul_mod, hjt, ← Nat.mul_mod, Nat.mul_one, Nat.mod_eq_of_lt hx]
  · rintro ⟨d, hd, rfl⟩
    obtain ⟨hd1, hd2⟩ := List.mem_filter.1 hd
    refine ⟨Nat.mod_lt _ (by omega), ?_⟩
    unfold mvN
    rw [Nat.add_zero, back_one (List.mem_range.1 hd1) hjt]
    exact hd2
theorem rep_two {P K : Nat} (hP : 2 ≤ P) (hK : 3 ≤ K) : 7 ≤ rep P K := by
  obtain ⟨k, rfl⟩ : ∃ k, K = k + 3 := ⟨K - 3, by omega⟩
  have h1 : 1 ≤ rep P (k + 1) := by rw [rep]; omega
  have h2 : 3 ≤ rep P (k + 2) := by
    rw [rep]
    have := Nat.mul_le_mul h1 hP
    omega
  rw [rep]
  have := Nat.mul_le_mul h2 hP
  omega
theorem sing_lev {P K R : Nat} {l : List Int} (hG : Fd.GoodF P K l) (hK : 3 ≤ K) (hr : rep P K ≤ 60) (hR : Fd.RootIs P K (Fd.monL l) R) :
    lvB (rep P K) (sgL P K (Fd.monL l) R (rep P K)) = true ∧ dfN (rep P K) (sgL P K (Fd.monL l) R (rep P K)) 1 = rep P (K - 2) ∧ (sgL P K (Fd.monL l) R (rep P K)).length = rep P (K - 1) := by
  have hRi := hG.field.toRing1
  have hv := rep_two (P := P) hRi.two hK
  obtain ⟨Z, g, hg, hone, hall, hZ, hper, hcc⟩ := Fd.good_sg hG hK hr
  obtain ⟨r1, r2, ro⟩ := Fd.root_pos (Fd.good_ord hG) hR
  obtain ⟨j, hj, ej⟩ := hall R r1 r2
  have hgc := Fd.root_gcd hRi ro hone ej
  have hdv : rep P K ∣ P ^ K - 1 := by
    have := rep_pow (P := P) (by have := hRi.two; omega) K
    exact ⟨P - 1, by rw [Nat.mul_comm]; omega⟩
  have hc : Nat.Coprime j (rep P K) := Nat.Coprime.coprime_dvd_right hdv hgc
  have hS : sgL P K (Fd.monL l) R (rep P K) = (List.range (rep P K)).filter fun i => Z (j * i % rep P K) := by
    unfold sgL
    refine List.filter_congr fun i _ => ?_
    rw [← ej, Fd.powQ_mul hRi, hZ, hper]
  unfold Fd.sgC at hcc
  rw [Bool.and_eq_true, Bool.and_eq_true, beq_iff_eq, beq_iff_eq] at hcc
  obtain ⟨c1, c2, c3⟩ := hcc
  obtain ⟨t, hct, hp⟩ := sing_perm (Z := Z) (by omega) hc
  have hp1 : Pts (rep P K) ((List.range (rep P K)).filter Z) := ⟨List.nodup_range.filter _, fun x hx => List.mem_range.1 (List.mem_filter.1 hx).1⟩
  have hL := lvB_lev (by omega) hp1 c1
  have hL2 := lev_perm hp.symm (lev_moved (s := 0) (by omega) hp1 hct hL)
  rw [← hS] at hp hL2
  obtain ⟨a1, a2⟩ := lev_lvB (by omega) (sg_good (by omega) hr).pts hL2
  refine ⟨a1, by rw [a2 (by omega), c2], ?_⟩
  rw [hp.length_eq, List.length_map, c3]

end Go.Proofs.YtgdkfbgehbdkjabDoor
