/- Kinds of permutations: how many cycles have each length; nothing of the program. -/
import Derived.Test.YtmaplmgecohjbaaCNum
namespace Go.Proofs.Ytmaplmgecohjbaa

/-- The permutation as a function. -/
def fnL (a : List Nat) : Nat → Nat := fun i => a.getD i 0
/-- Of each length, from 1 to 7, how many cycles have it. -/
noncomputable def kd (n : Nat) (a : List Nat) : List Nat := (List.range 7).map fun j => (lens n (fnL a)).count (j + 1)
theorem kd_len (n : Nat) (a : List Nat) : (kd n a).length = 7 := by simp [kd]
theorem kd_at {n : Nat} {a : List Nat} {j : Nat} (hj : j < 7) : (kd n a).getD j 0 = (lens n (fnL a)).count (j + 1) := by simp [kd, hj]
theorem counts_sum : ∀ l : List Nat, (∀ x ∈ l, 1 ≤ x ∧ x ≤ 7) → ((List.range 7).map fun j => l.count (j + 1)).sum = l.length
  | [], _ => by simp [List.range_succ]
  | x :: l, h => by
    have ih := counts_sum l fun y hy => h y (by simp [hy])
    have hx := h x (by simp)
    simp only [List.range_succ, List.range_zero, List.nil_append, List.map_cons, List.map_nil, List.sum_cons, List.sum_nil, List.cons_append, Nat.reduceAdd, Nat.zero_add] at ih ⊢
    simp only [List.count_cons, List.length_cons, beq_iff_eq]
    rcases (show x = 1 ∨ x = 2 ∨ x = 3 ∨ x = 4 ∨ x = 5 ∨ x = 6 ∨ x = 7 by omega) with rfl | rfl | rfl | rfl | rfl | rfl | rfl <;> simp <;> omega
theorem lens_in {n : Nat} {a : List Nat} (ha : IsP n a) (hn : n ≤ 7) : ∀ x ∈ lens n (fnL a), 1 ≤ x ∧ x ≤ 7 := fun x hx => by
  have := (ha.pm : Pm n (fnL a)).lens_mem hx
  omega
theorem kd_sum {n : Nat} {a : List Nat} (ha : IsP n a) (hn : n ≤ 7) : (kd n a).sum = (leads n (fnL a) n).length := by
  unfold kd
  rw [counts_sum _ (lens_in ha hn)]
  unfold lens
  rw [List.length_map]
theorem kd_small {n : Nat} {a : List Nat} (hn : n ≤ 7) : ∀ j, j < 7 → (kd n a).getD j 0 ≤ 7 := fun j hj => by
  rw [kd_at hj]
  refine Nat.le_trans List.count_le_length ?_
  unfold lens leads
  rw [List.length_map]
  refine Nat.le_trans (List.length_filter_le _ _) ?_
  rw [List.length_range]; exact hn

theorem gen_itr {n : Nat} {a : List Nat} (ha : IsP n a) {g : List Nat} (h : Gen n [a] g) : ∃ k, ∀ i, i < n → g.getD i 0 = itr (fnL a) k i := by
  induction h with
  | one => exact ⟨0, fun i hi => by rw [idL_at hi]; rfl⟩
  | step g m h1 h2 ih =>
    obtain ⟨k, hk⟩ := ih
    refine ⟨k + 1, fun i hi => ?_⟩
    rw [List.mem_singleton.1 h2, thenL_at (h1.isP (one_isP ha)).len hi, hk i hi]
    rfl
theorem itr_gen {n : Nat} {a : List Nat} (ha : IsP n a) : ∀ k, ∃ g, Gen n [a] g ∧ ∀ i, i < n → g.getD i 0 = itr (fnL a) k i
  | 0 => ⟨idL n, Gen.one, fun i hi => by rw [idL_at hi]; rfl⟩
  | k + 1 => by
    obtain ⟨g, hg, h⟩ := itr_gen ha k
    refine ⟨thenL g a, Gen.step g a hg (by simp), fun i hi => ?_⟩
    rw [thenL_at (hg.isP (one_isP ha)).len hi, h i hi]
    rfl
theorem lead_rep {n : Nat} {a : List Nat} (ha : IsP n a) {x : Nat} (hx : x < n) : leadB n (fnL a) x = decide (cycRep n a x = x) := by
  have P : Pm n (fnL a) := ha.pm
  have hG := gen_grp (one_isP ha)
  rw [Bool.eq_iff_iff, decide_eq_true_iff, P.lead hx]
  have e : cycRep n a x = repO n (Gen n [a]) x := if_pos hx
  rw [e]
  constructor
  · intro h
    obtain ⟨g, hg, eg⟩ := (mem_orbL.1 (repO_mem hG hx)).2
    obtain ⟨k, hk⟩ := gen_itr ha hg
    have h1 := h k
    rw [← hk x hx, eg] at h1
    have h2 := repO_low hG hx
    omega
  · intro h k
    obtain ⟨g, hg, hk⟩ := itr_gen ha k
    rw [← hk x hx]
    have hy : g.getD x 0 < n := (hg.isP (one_isP ha)).at hx
    have h1 := (repO_eq hG hx hy).2 ⟨g, hg, rfl⟩
    have h2 := repO_low hG hy
    omega
theorem leads_parts {n : Nat} {a : List Nat} (ha : IsP n a) : (leads n (fnL a) n).length = parts (cycRep n a) n := by
  rw [leads_length]
  unfold parts
  exact List.countP_congr fun x hx => by rw [lead_rep ha (List.mem_range.1 hx)]
theorem kd_parts {n : Nat} {a : List Nat} (ha : IsP n a) (hn : n ≤ 7) : (kd n a).sum = parts (cycRep n a) n := by rw [kd_sum ha hn, leads_parts ha]
/-- How many colourings are not moved to one another. -/
noncomputable def colG (n k : Nat) (ms : List (List Nat)) : Nat := (repsA (List.range (k ^ n)) (Gen n ms) (actC n k)).length
theorem polya_kd {n k : Nat} {ms : List (List Nat)} (hn : n ≤ 7) (hk : 0 < k) (hm : ∀ m ∈ ms, IsP n m) : ((els n (Gen n ms)).map fun a => k ^ (kd n a).sum).sum = colG n k ms * (els n (Gen n ms)).length := by
  unfold colG
  rw [← polya hk (gen_grp hm)]
  congr 1
  exact List.map_congr_left fun a ha => by rw [kd_parts (mem_els.1 ha).1 hn]

end Go.Proofs.Ytmaplmgecohjbaa
