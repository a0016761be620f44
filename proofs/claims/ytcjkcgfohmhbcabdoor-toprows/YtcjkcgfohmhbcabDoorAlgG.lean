/- Fermat and Frobenius. -/
import Derived.Test.YtcjkcgfohmhbcabDoorAlgE
/- The P-th power is a linear map: by a table of the images of 1, x, x x, .., field by field, which the kernel checks. -/
namespace Go.Proofs.YtcjkcgfohmhbcabDoor.Fd

end Go.Proofs.YtcjkcgfohmhbcabDoor.Fd

namespace Go.Proofs.YtcjkcgfohmhbcabDoor.Fd

/-- The row of the table of powers that is a given field's. -/
theorem row_of_irr {P K : Nat} {l : List Int} (hp : isPrimeB (P : Int) = true) (hK : 1 ≤ K) (hPK : P ^ K ≤ 64) (hl : l.length = K) (hin : inL (P : Int) l) (hirr : irrP (monL l) K P) : ∃ n s c L, (P, K, n, s, c, L) ∈ genTab ∧ (K = 1 ∨ ∀ t, t < K → monL l t = digF n P t) := by
  have hP := (prime_bd hp).1
  have hP2 : 2 ≤ P := by omega
  have hK6 := deg_le hP2 hPK
  have hmin := monL_in (l := l) (p := (P : Int)) (by omega) hin
  obtain ⟨n, Hn⟩ : ∃ n, n = (hor (monL l) P K K).toNat := ⟨_, rfl⟩
  have hdig : ∀ t, t < K → monL l t = digF n P t := fun t ht => by rw [Hn, digF_hor hP2 hmin t ht]
  have hn : n < P ^ K := by rw [Hn]; exact hor_lt hP2 hmin
  have hcov : covered P K n = true := by
    have h := covered_all
    rw [List.all_eq_true] at h
    have h2 := h (P : Int) (by unfold isPrimeB at hp; rwa [List.contains_iff_mem] at hp)
    rw [List.all_eq_true] at h2
    have h3 := h2 K (by simp; omega)
    rw [Int.toNat_natCast] at h3
    simp only [Bool.or_eq_true, beq_iff_eq, decide_eq_true_eq, List.all_eq_true, List.mem_range] at h3
    rcases h3 with (h3 | h3) | h3
    · omega
    · omega
    · exact h3 n hn
  unfold covered at hcov
  rw [Bool.or_eq_true, List.any_eq_true, List.any_eq_true] at hcov
  rcases hcov with ⟨⟨P', K', n', s, c, L⟩, hmem, hk⟩ | ⟨⟨P', K', n', d, b⟩, hmem, hk⟩
  · simp only [Bool.and_eq_true, beq_iff_eq, Bool.or_eq_true] at hk
    obtain ⟨⟨rfl, rfl⟩, hn'⟩ := hk
    refine ⟨n', s, c, L, hmem, ?_⟩
    rcases hn' with rfl | h1
    · exact .inr hdig
    · exact .inl h1
  · simp only [Bool.and_eq_true, beq_iff_eq] at hk
    obtain ⟨⟨rfl, rfl⟩, rfl⟩ := hk
    have hchk := List.all_eq_true.1 red_ok _ hmem
    unfold redChk at hchk
    simp only [Bool.and_eq_true, decide_eq_true_eq, beq_iff_eq, List.all_eq_true, List.mem_range] at hchk
    obtain ⟨⟨⟨hz, hd1⟩, hd2⟩, hb⟩ := hchk
    have hll : digL n' P' K' = l := by
      apply List.ext_getElem
      · rw [digL_length, hl]
      · intro t h1 h2
        have h3 := hdig t (by omega)
        rw [monL_low l t h2] at h3
        have h4 := digL_at n' P' K' t (by omega)
        rw [← h3] at h4
        simpa [h1, h2] using h4
    rw [hll] at hz
    have := (div_same hP2 hl hmin (by omega) (by omega) hb).1 (fun t ht => hz t (by omega))
    exact absurd this (hirr d hd1 hd2 b hb)
/-- What the row says: a list of the powers of one element, which are all but 0. -/
structure PowTab (P K : Nat) (m : Nat → Int) (L : List Nat) : Prop extends Ring1 P K m where
  len : L.length = P ^ K - 1
  pows : ∃ g, g < P ^ K ∧ (∀ i, i < P ^ K - 1 → L.getD i 0 = powQ P K m g i) ∧ powQ P K m g (P ^ K - 1) = 1
  all : ∀ a, 1 ≤ a → a < P ^ K → ∃ i, i < P ^ K - 1 ∧ L.getD i 0 = a
theorem tab_of_row {P K n s c : Nat} {L : List Nat} {m : Nat → Int} (hR : Ring1 P K m) (hm : K = 1 ∨ ∀ t, t < K → m t = digF n P t) (h : genChk (P, K, n, s, c, L) = true) : PowTab P K m L := by
  unfold genChk at h
  simp only [Bool.and_eq_true, decide_eq_true_eq, Bool.or_eq_true, beq_iff_eq, List.all_eq_true, List.mem_range, List.contains_iff_mem] at h
  obtain ⟨⟨⟨⟨hL, hall⟩, hc⟩, hs⟩, hK⟩ := h
  have hstep : ∀ i, powQ P K m (c + s * P) (i + 1) = stepQ P K n s c (powQ P K m (c + s * P) i) := fun i => step_eq hR hm hc hs hK _
  have hat := pwList_at (stepQ P K n s c) (powQ P K m (c + s * P)) hstep (P ^ K) 0
  have hlen := pwList_length (stepQ P K n s c) (P ^ K) 1
  have h1 := one_lt hR
  have hL' : pwList (stepQ P K n s c) (P ^ K) (powQ P K m (c + s * P) 0) = L ++ [1] := hL
  rw [hL'] at hat
  rw [hL, List.length_append, List.length_singleton] at hlen
  refine ⟨hR, by omega, ⟨c + s * P, lin_small hR.two hR.one hc hs hK, fun i hi => ?_, ?_⟩, fun a ha1 ha => ?_⟩
  · have h2 := hat i (by omega)
    have hi' : i < L.length := by omega
    rw [List.getElem?_append_left hi', Nat.zero_add] at h2
    rw [List.getD_eq_getElem?_getD, h2]; rfl
  · have h2 := hat (P ^ K - 1) (by omega)
    rw [List.getElem?_append_right (by omega), show P ^ K - 1 - L.length = 0 by omega, Nat.zero_add] at h2
    exact (Option.some.inj h2).symm
  · have hmem := hall (a - 1) (by omega)
    rw [show a - 1 + 1 = a by omega] at hmem
    obtain ⟨i, hi, e⟩ := List.mem_iff_getElem.1 hmem
    exact ⟨i, by omega, by rw [List.getD_eq_getElem?_getD, List.getElem?_eq_getElem hi, e]; rfl⟩
section
variable {P K : Nat} {m : Nat → Int}
theorem powQ_zero_pos (hR : Ring1 P K m) (n : Nat) (h : 0 < n) : powQ P K m 0 n = 0 := by
  obtain ⟨j, rfl⟩ : ∃ j, n = j + 1 := ⟨n - 1, by omega⟩
  show mulQ P K m 0 _ = 0
  rw [mulQ_comm hR, mulQ_zero hR]
end
end Go.Proofs.YtcjkcgfohmhbcabDoor.Fd
