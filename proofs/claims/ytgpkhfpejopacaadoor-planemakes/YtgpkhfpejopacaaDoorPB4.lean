/- Which fields have an order of up to 5, and what their planes are. -/
import Derived.Test.YtgpkhfpejopacaaDoorPB3
import Derived.Test.YtgpkhfpejopacaaDoorPlS
namespace Go.Proofs.YtgpkhfpejopacaaDoor
open Go.RowKit

/-- The conic of the plane of order q, for q up to 5. -/
def cq (q : Nat) : List Nat := match q with
  | 2 => [0, 3, 6]
  | 3 => [0, 4, 8, 11]
  | 4 => [0, 5, 10, 16, 19]
  | 5 => [0, 6, 12, 20, 25, 27]
  | _ => []
def f5L : List (Nat × Nat × List Int) := [(2, 1, [0]), (2, 1, [1]), (3, 1, [0]), (3, 1, [1]), (3, 1, [2]), (5, 1, [0]), (5, 1, [1]), (5, 1, [2]), (5, 1, [3]), (5, 1, [4]), (2, 2, [1, 1])]
theorem no_gen (l : List Int) (h : ((List.range 4).all fun g => (List.range 3).any fun a => (List.range 3).all fun i => Fd.powQ 2 2 (Fd.monL l) g i != a + 1) = true) : ¬ Fd.FieldQ 2 2 (Fd.monL l) := fun hf => by
  obtain ⟨g, hg, hall, _⟩ := hf.gen
  obtain ⟨a, ha, k⟩ := rx (ra h (show g < 4 from hg))
  obtain ⟨i, hi, e⟩ := hall (a + 1) (by omega) (show a + 1 < 2 ^ 2 by omega)
  have := ra k (show i < 3 from hi)
  rw [e] at this
  exact absurd rfl (bne_iff_ne.1 this)
theorem good_five {P K : Nat} {l : List Int} (hG : Fd.GoodF P K l) (h5 : P ^ K ≤ 5) : (P, K, l) ∈ f5L := by
  obtain ⟨P', K', e1, e2, hP, _, hK, _, _, _, hlen, hmi, _, hpr⟩ := Fd.good_parts hG.fault
  obtain rfl : P = P' := by omega
  obtain rfl : K = K' := by omega
  have hf := hG.field
  have hP0 : 0 < P := Nat.lt_of_lt_of_le (by decide) hP
  have hP5 : P ≤ 5 := Nat.le_trans (Nat.le_trans (Nat.le_of_eq (Nat.pow_one P).symm) (Nat.pow_le_pow_right hP0 hK)) h5
  have hK2 : K ≤ 2 := by
    refine Nat.le_of_not_lt fun h => ?_
    have h1 : 2 ^ 3 ≤ P ^ 3 := Nat.pow_le_pow_left hP 3
    have h2 : P ^ 3 ≤ P ^ K := Nat.pow_le_pow_right hP0 h
    omega
  rcases (show K = 1 ∨ K = 2 by omega) with rfl | rfl
  · match l, hlen with
    | [c], _ =>
      have h0 := hmi 0
      have e0 : Fd.monL [c] 0 = c := rfl
      rw [e0] at h0
      rcases (show P = 2 ∨ P = 3 ∨ P = 4 ∨ P = 5 by omega) with rfl | rfl | rfl | rfl
      · rcases (show c = 0 ∨ c = 1 by omega) with rfl | rfl <;> decide
      · rcases (show c = 0 ∨ c = 1 ∨ c = 2 by omega) with rfl | rfl | rfl <;> decide
      · exact absurd hpr (by decide)
      · rcases (show c = 0 ∨ c = 1 ∨ c = 2 ∨ c = 3 ∨ c = 4 by omega) with rfl | rfl | rfl | rfl | rfl <;> decide
  · obtain rfl : P = 2 := by
      refine Nat.le_antisymm (Nat.le_of_not_lt fun h => ?_) hP
      have h1 : 3 ^ 2 ≤ P ^ 2 := Nat.pow_le_pow_left h 2
      omega
    match l, hlen with
    | [c, d], _ =>
      have h0 := hmi 0
      have h1 := hmi 1
      have e0 : Fd.monL [c, d] 0 = c := rfl
      have e1 : Fd.monL [c, d] 1 = d := rfl
      rw [e0] at h0
      rw [e1] at h1
      rcases (show c = 0 ∨ c = 1 by omega) with rfl | rfl <;> rcases (show d = 0 ∨ d = 1 by omega) with rfl | rfl
      · exact absurd hf (no_gen _ (by decide +kernel))
      · exact absurd hf (no_gen _ (by decide +kernel))
      · exact absurd hf (no_gen _ (by decide +kernel))
      · decide
def f5B (f : Nat × Nat × List Int) : Bool :=
  let q := f.1 ^ f.2.1
  let T := trL q (q * q * q)
  decide (q = 2 ∨ q = 3 ∨ q = 4 ∨ q = 5) && (T.length == vq q && (plL (Fd.addQ f.1 f.2.1) (Fd.mulQ f.1 f.2.1 (Fd.monL f.2.2)) T T.length == bq q && cnL (Fd.mulQ f.1 f.2.1 (Fd.monL f.2.2)) T T.length == cq q))
theorem f5_all : f5L.all f5B = true := by decide +kernel
/-- The plane and the conic of a field of up to 5 elements. -/
theorem plane_five {P K : Nat} {l : List Int} (hG : Fd.GoodF P K l) (h5 : P ^ K ≤ 5) : Q4 (P ^ K) ∧ (trL (P ^ K) (P ^ K * P ^ K * P ^ K)).length = vq (P ^ K) ∧
    plL (Fd.addQ P K) (Fd.mulQ P K (Fd.monL l)) (trL (P ^ K) (P ^ K * P ^ K * P ^ K)) (trL (P ^ K) (P ^ K * P ^ K * P ^ K)).length = bq (P ^ K) ∧
    cnL (Fd.mulQ P K (Fd.monL l)) (trL (P ^ K) (P ^ K * P ^ K * P ^ K)) (trL (P ^ K) (P ^ K * P ^ K * P ^ K)).length = cq (P ^ K) := by
  have k := List.all_eq_true.1 f5_all _ (good_five hG h5)
  unfold f5B at k
  simp only [Bool.and_eq_true, decide_eq_true_eq, beq_iff_eq] at k
  exact k

end Go.Proofs.YtgpkhfpejopacaaDoor
