/- What among does with any points that are kept; nothing of the program's walk. -/
import Derived.Test.YtnnopfdckillpaaDoorF5
import Derived.Test.YtnnopfdckillpaaDoorDPart
namespace Go.Proofs.YtnnopfdckillpaaDoor

theorem pc_below {K : List Nat} (hK : K.Pairwise (· < ·)) (h64 : ∀ x ∈ K, x < 64) {i : Nat} (hi : i < K.length) : pc (sb K &&& (2 ^ (K.getD i 0) - 1)) = i := by
  have e : pts (sb K &&& (2 ^ (K.getD i 0) - 1)) = K.take i := by
    refine pts_ext (hK.sublist (List.take_sublist i K)) (Nat.lt_of_le_of_lt Nat.and_le_left (sb_lt h64)) fun j => ?_
    rw [Nat.testBit_and, sb_bit, low_bit, Bool.and_eq_true, List.contains_iff_mem, decide_eq_true_eq]
    have eg : ∀ m (hm : m < K.length), K.getD m 0 = K[m] := fun m hm => by rw [List.getD_eq_getElem?_getD, List.getElem?_eq_getElem hm]; rfl
    rw [eg i hi]
    constructor
    · rintro ⟨h1, h2⟩
      obtain ⟨m, hm, rfl⟩ := List.mem_iff_getElem.1 h1
      have hmi : m < i := by
        rcases Nat.lt_trichotomy m i with h | h | h
        · exact h
        · subst h; omega
        · have := List.pairwise_iff_getElem.1 hK i m hi hm h; omega
      exact List.mem_iff_getElem.2 ⟨m, by rw [List.length_take]; omega, by rw [List.getElem_take]⟩
    · intro h1
      obtain ⟨m, hm, rfl⟩ := List.mem_iff_getElem.1 h1
      rw [List.length_take] at hm
      rw [List.getElem_take]
      exact ⟨List.getElem_mem _, List.pairwise_iff_getElem.1 hK m i (by omega) hi (by omega)⟩
  unfold pc
  rw [e, List.length_take]
  omega
theorem range_getD (K : List Nat) : (List.range K.length).map (fun i => K.getD i 0) = K := by
  refine List.ext_getElem (by simp) fun i h1 h2 => ?_
  simp [List.getD_eq_getElem?_getD, List.getElem?_eq_getElem h2]
theorem am_gen {K : List Nat} (hK : K.Pairwise (· < ·)) (h64 : ∀ x ∈ K, x < 64) (z : Nat) : amL (sb K) (z &&& sb K) = (List.range K.length).filter fun i => z.testBit (K.getD i 0) := by
  have e : pts (z &&& sb K) = K.filter fun x => z.testBit x := by
    refine pts_ext (List.Pairwise.filter _ hK) (Nat.lt_of_le_of_lt Nat.and_le_right (sb_lt h64)) fun j => ?_
    rw [Nat.testBit_and, sb_bit, List.mem_filter, Bool.and_eq_true, List.contains_iff_mem, and_comm]
  unfold amL
  rw [e]
  have e2 : K.filter (fun x => z.testBit x) = ((List.range K.length).filter fun i => z.testBit (K.getD i 0)).map fun i => K.getD i 0 := by
    conv => lhs; rw [← range_getD K]
    rw [List.filter_map]
    rfl
  rw [e2, List.map_map]
  refine (List.map_congr_left fun i hi => ?_).trans (List.map_id _)
  exact pc_below hK h64 (List.mem_range.1 (List.mem_filter.1 hi).1)
/-- All points but one. -/
def wo (v p : Nat) : List Nat := (List.range (v - 1)).map (sk p)
theorem wo_len (v p : Nat) : (wo v p).length = v - 1 := by simp [wo]
theorem wo_getD {v p x : Nat} (hx : x < v - 1) : (wo v p).getD x 0 = sk p x := by
  unfold wo
  rw [List.getD_eq_getElem?_getD, List.getElem?_map, List.getElem?_eq_getElem (by simpa using hx)]
  simp
theorem wo_rise (v p : Nat) : (wo v p).Pairwise (· < ·) := by
  unfold wo
  rw [List.pairwise_map]
  refine List.pairwise_lt_range.imp fun {a b} h => ?_
  unfold sk
  split <;> split <;> omega
theorem wo_mem {v p x : Nat} (hp : p < v) : x ∈ wo v p ↔ x < v ∧ x ≠ p := by
  unfold wo
  rw [List.mem_map]
  constructor
  · rintro ⟨y, hy, rfl⟩
    exact ⟨sk_lt (List.mem_range.1 hy), sk_ne p y⟩
  · rintro ⟨h1, h2⟩
    by_cases h : x < p
    · exact ⟨x, List.mem_range.2 (by omega), by unfold sk; rw [if_pos h]⟩
    · exact ⟨x - 1, List.mem_range.2 (by omega), by unfold sk; rw [if_neg (by omega)]; omega⟩
theorem wo_sb {v p : Nat} (hp : p < v) (hv : v ≤ 64) : an (2 ^ v - 1) (2 ^ p) = sb (wo v p) := by
  have h1 : 2 ^ v - 1 < 2 ^ 64 := by have := Nat.pow_le_pow_right (n := 2) (by decide) hv; have := Nat.pos_of_ne_zero (show 2 ^ v ≠ 0 by simp); omega
  have h2 : 2 ^ p < 2 ^ 64 := pow_lt64 (by omega)
  refine Nat.eq_of_testBit_eq fun i => ?_
  rw [an_bit h1 h2, low_bit, sb_bit, Nat.testBit_two_pow, Bool.eq_iff_iff]
  simp only [Bool.and_eq_true, decide_eq_true_eq, Bool.not_eq_true', decide_eq_false_iff_not, List.contains_iff_mem, wo_mem hp]
  exact ⟨fun ⟨a, b⟩ => ⟨a, fun e => b e.symm⟩, fun ⟨a, b⟩ => ⟨a, fun e => b e.symm⟩⟩
theorem oth_sb {v : Nat} {b : List Nat} (hv : v ≤ 40) (hb : ∀ x ∈ b, x < v) : an (2 ^ v - 1) (sb b) = sb (oth v b) := by
  have h1 : 2 ^ v - 1 < 2 ^ 64 := by have := Nat.pow_le_pow_right (n := 2) (by decide) (show v ≤ 64 by omega); have := Nat.pos_of_ne_zero (show 2 ^ v ≠ 0 by simp); omega
  have h2 : sb b < 2 ^ 64 := sb_lt fun x hx => by have := hb x hx; omega
  refine Nat.eq_of_testBit_eq fun i => ?_
  rw [an_bit h1 h2, low_bit, sb_bit, sb_bit, Bool.eq_iff_iff]
  simp only [Bool.and_eq_true, decide_eq_true_eq, Bool.not_eq_true', oth_mem, List.contains_eq_mem, decide_eq_false_iff_not]
theorem deriv_am {v p : Nat} {B : List (List Nat)} (hv : v ≤ 40) (hp : p < v) : ((B.filter fun b => b.contains p).map sb).map (fun y => amL (sb (wo v p)) (y &&& sb (wo v p))) = deriv v p B := by
  rw [List.map_map]
  refine List.map_congr_left fun b _ => ?_
  show amL _ (sb b &&& _) = _
  rw [am_gen (wo_rise v p) (fun x hx => by have := ((wo_mem hp).1 hx).1; omega), wo_len]
  refine List.filter_congr fun x hx => ?_
  rw [wo_getD (List.mem_range.1 hx), sb_bit]
theorem resid_am {v i : Nat} {B : List (List Nat)} (hv : v ≤ 40) : ((B.take i ++ B.drop (i + 1)).map sb).map (fun y => amL (sb (oth v (B.getD i []))) (y &&& sb (oth v (B.getD i [])))) = resid v i B := by
  rw [List.map_map]
  refine List.map_congr_left fun b _ => ?_
  show amL _ (sb b &&& _) = _
  rw [am_gen (oth_rise v _) (fun x hx => by have := (oth_mem.1 hx).1; omega)]
  refine List.filter_congr fun x hx => ?_
  rw [sb_bit]

end Go.Proofs.YtnnopfdckillpaaDoor
