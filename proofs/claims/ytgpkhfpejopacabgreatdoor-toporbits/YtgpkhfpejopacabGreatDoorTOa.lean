/- What a group moves is counted alike: orbits are colourings of one thing marked; the index's sum is the order; nothing of the program. -/
import Derived.Test.YtgpkhfpejopacabGreatDoorZCCon
namespace Go.Proofs.YtgpkhfpejopacabGreatDoor.Gc

/-- All things of colour 1 but the x-th. -/
def mkd (n x : Nat) : List Nat := (List.range n).map fun y => if y = x then 0 else 1
theorem mkd_at {n x y : Nat} (hy : y < n) : (mkd n x).getD y 0 = if y = x then 0 else 1 := by simp [mkd, hy]
theorem mkd_lt (n x : Nat) : ∀ y ∈ mkd n x, y < 2 := by
  intro y hy
  obtain ⟨z, _, rfl⟩ := List.mem_map.1 hy
  split <;> omega
theorem mkd_len (n x : Nat) : (mkd n x).length = n := by simp [mkd]
theorem mkd_mvd {n x : Nat} {a : List Nat} (ha : IsP n a) (hx : x < n) : mvd n a (mkd n x) = mkd n (a.getD x 0) := by
  refine ext_getD (mvd_len _ _ _) (mkd_len _ _) fun y hy => ?_
  have hi := (invL_isP ha).at hy
  rw [mvd_at hy, mkd_at hi, mkd_at hy]
  have e : (invL n a).getD y 0 = x ↔ y = a.getD x 0 := by
    constructor
    · intro h; rw [← h, a_inv ha hy]
    · intro h; rw [h, inv_a ha hx]
  by_cases h : y = a.getD x 0
  · rw [if_pos (e.2 h), if_pos h]
  · rw [if_neg (fun q => h (e.1 q)), if_neg h]
theorem mkd_inj {n x y : Nat} (hx : x < n) (h : mkd n x = mkd n y) : x = y := by
  have h1 := mkd_at (x := x) hx
  rw [h, mkd_at hx] at h1
  by_cases e : x = y
  · exact e
  · simp [e] at h1
/-- The colourings of one thing marked, as numbers. -/
def onesL (n : Nat) : List Nat := (List.range n).map fun x => numL 2 (mkd n x)
theorem ones_all {n : Nat} (h2 : 2 ≤ n) (h7 : n ≤ 7) : ((List.range (2 ^ n)).filter (hasCon n 2 [1, n - 1])).Perm (onesL n) := by
  have : n = 2 ∨ n = 3 ∨ n = 4 ∨ n = 5 ∨ n = 6 ∨ n = 7 := by omega
  rcases this with rfl | rfl | rfl | rfl | rfl | rfl <;> decide +kernel
theorem act_mkd {n x : Nat} {a : List Nat} (ha : IsP n a) (hx : x < n) : actC n 2 a (numL 2 (mkd n x)) = numL 2 (mkd n (a.getD x 0)) := by
  unfold actC
  have h := dig_num (mkd_lt n x)
  rw [mkd_len] at h
  rw [h, mkd_mvd ha hx]
theorem num_mkd_inj {n x y : Nat} (hx : x < n) (h : numL 2 (mkd n x) = numL 2 (mkd n y)) : x = y := by
  have h1 := dig_num (mkd_lt n x)
  have h2 := dig_num (mkd_lt n y)
  rw [mkd_len] at h1 h2
  rw [h, h2] at h1
  exact (mkd_inj hx h1.symm)
theorem ones_fix {n : Nat} {a : List Nat} (h2 : 2 ≤ n) (h7 : n ≤ 7) (ha : IsP n a) : ((List.range (2 ^ n)).filter (hasCon n 2 [1, n - 1])).countP (fun c => decide (actC n 2 a c = c)) = fixN n a := by
  rw [(ones_all h2 h7).countP_eq]
  unfold onesL fixN
  rw [List.countP_map]
  refine List.countP_congr fun x hx => ?_
  have hx := List.mem_range.1 hx
  simp only [Function.comp, decide_eq_true_eq]
  rw [act_mkd ha hx]
  constructor
  · intro h; exact num_mkd_inj (ha.at hx) h
  · intro h; rw [h]
/-- Orbits are colourings of one thing marked. -/
theorem orbits_con {n : Nat} {ms : List (List Nat)} (h2 : 2 ≤ n) (h7 : n ≤ 7) (hm : ∀ m ∈ ms, IsP n m) : conG n 2 ms [1, n - 1] = (reps n (Gen n ms)).length := by
  have hG := gen_grp hm
  have h := burnsideA (con_acts (n := n) (k := 2) (many := [1, n - 1]) (by omega)) hG
  have b := burnside hG
  have e : ((els n (Gen n ms)).map fun a => ((List.range (2 ^ n)).filter (hasCon n 2 [1, n - 1])).countP fun c => decide (actC n 2 a c = c)) = (els n (Gen n ms)).map (fixN n) :=
    List.map_congr_left fun a ha => ones_fix h2 h7 (hG.isP a (hG.mem.1 ha))
  rw [e, b] at h
  exact (Nat.eq_of_mul_eq_mul_right (els_pos hG) h).symm
/-- How often each comes, together. -/
theorem count_len {α : Type} [BEq α] [LawfulBEq α] : ∀ (M L : List α), M.Nodup → (∀ y, y ∈ L → y ∈ M) → (M.map fun y => L.count y).sum = L.length
  | M, [], _, _ => by
    have : ∀ M : List α, (M.map fun y => ([] : List α).count y).sum = 0 := fun M => by induction M <;> simp_all
    rw [this]; rfl
  | M, a :: L, nd, h => by
    have ih := count_len M L nd fun y hy => h y (by simp [hy])
    have ha := h a (by simp)
    have e : ∀ M : List α, (M.map fun y => (a :: L).count y).sum = (M.map fun y => L.count y).sum + M.count a := by
      intro M
      induction M with
      | nil => rfl
      | cons b M ih =>
        rw [List.map_cons, List.sum_cons, ih, List.map_cons, List.sum_cons, List.count_cons, List.count_cons]
        by_cases q : a = b
        · subst q; simp; omega
        · have q' : ¬ b = a := fun z => q z.symm
          simp [q, q']; omega
    rw [e, ih, nd.count, if_pos ha, List.length_cons]
end Go.Proofs.YtgpkhfpejopacabGreatDoor.Gc
