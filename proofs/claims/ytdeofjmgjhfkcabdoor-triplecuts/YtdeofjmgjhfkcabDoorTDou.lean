/- Systems of triples, doubled; nothing of the program. -/
import Derived.Test.YtdeofjmgjhfkcabDoorTPure
namespace Go.Proofs.YtdeofjmgjhfkcabDoor

/-- A system of triples. -/
structure Sys (v : Nat) (B : List (List Nat)) : Prop where
  bl : Bls v B
  sz : ∀ b ∈ B, b.length = 3
  l2 : ∀ p q, p < v → q < v → p ≠ q → nb B [p, q] = 1
theorem nb_append (A B : List (List Nat)) (s : List Nat) : nb (A ++ B) s = nb A s + nb B s := by unfold nb; rw [List.countP_append]
theorem nb_flat (f : List Nat → List (List Nat)) (s : List Nat) : ∀ B : List (List Nat), nb (B.flatMap f) s = (B.map fun b => nb (f b) s).sum
  | [] => rfl
  | b :: B => by rw [List.flatMap_cons, nb_append, nb_flat f s B]; rfl
theorem nb_sum (s : List Nat) : ∀ B : List (List Nat), nb B s = (B.map fun b => if (s.all fun x => b.contains x) = true then 1 else 0).sum
  | [] => rfl
  | b :: B => by
    have := nb_sum s B
    unfold nb at this ⊢
    rw [List.countP_cons, this, List.map_cons, List.sum_cons, Nat.add_comm]
theorem sum_congr {f g : List Nat → Nat} {B : List (List Nat)} (h : ∀ b ∈ B, f b = g b) : (B.map f).sum = (B.map g).sum := by rw [List.map_congr_left h]
def tri (v : Nat) : List Nat → List (List Nat)
  | [x, y, z] => [[x, y + v, z + v], [y, x + v, z + v], [z, x + v, y + v]]
  | _ => []
def spk (v : Nat) : List (List Nat) := (List.range v).map fun x => [x, x + v, 2 * v]
def dbl (v : Nat) (B : List (List Nat)) : List (List Nat) := B ++ spk v ++ B.flatMap (tri v)
theorem three_of {v : Nat} {b : List Nat} (h : Pts v b) (h3 : b.length = 3) : ∃ x y z, b = [x, y, z] ∧ x < v ∧ y < v ∧ z < v ∧ x ≠ y ∧ x ≠ z ∧ y ≠ z := by
  match b, h3, h with
  | [x, y, z], _, h =>
    have hn := h.1
    simp only [List.nodup_cons, List.mem_cons, List.not_mem_nil, or_false, not_or, not_false_eq_true, List.nodup_nil, and_true] at hn
    exact ⟨x, y, z, rfl, h.lt x (by simp), h.lt y (by simp), h.lt z (by simp), hn.1.1, hn.1.2, hn.2⟩
theorem nb_pair (B : List (List Nat)) (p q : Nat) : nb B [p, q] = (B.map fun b => if p ∈ b ∧ q ∈ b then 1 else 0).sum := by
  rw [nb_sum]
  exact sum_congr fun b _ => by simp
theorem tri_low {v p q : Nat} {b : List Nat} (h : Pts v b) (h3 : b.length = 3) (hp : p < v) (hq : q < v) (hn : p ≠ q) : nb (tri v b) [p, q] = 0 := by
  obtain ⟨x, y, z, rfl, hx, hy, hz, _, _, _⟩ := three_of h h3
  rw [nb_pair]
  unfold tri
  simp only [List.map_cons, List.map_nil, List.sum_cons, List.sum_nil, List.mem_cons, List.not_mem_nil, or_false]
  rw [if_neg (by omega), if_neg (by omega), if_neg (by omega)]; rfl
theorem tri_mix {v p q : Nat} {b : List Nat} (h : Pts v b) (h3 : b.length = 3) (hp : p < v) (hq : q < v) : nb (tri v b) [p, q + v] = if p ≠ q ∧ p ∈ b ∧ q ∈ b then 1 else 0 := by
  obtain ⟨x, y, z, rfl, hx, hy, hz, h1, h2, h3'⟩ := three_of h h3
  rw [nb_pair]
  unfold tri
  simp only [List.map_cons, List.map_nil, List.sum_cons, List.sum_nil, List.mem_cons, List.not_mem_nil, or_false]
  by_cases e1 : p = x
  · rw [if_neg (show ¬ ((p = y ∨ p = x + v ∨ p = z + v) ∧ _) from fun h => by omega), if_neg (show ¬ ((p = z ∨ p = x + v ∨ p = y + v) ∧ _) from fun h => by omega)]
    by_cases e2 : q = y ∨ q = z
    · rw [if_pos (by omega), if_pos (by omega)]; rfl
    · rw [if_neg (by omega), if_neg (by omega)]; rfl
  · by_cases e2 : p = y
    · rw [if_neg (show ¬ ((p = x ∨ p = y + v ∨ p = z + v) ∧ _) from fun h => by omega), if_neg (show ¬ ((p = z ∨ p = x + v ∨ p = y + v) ∧ _) from fun h => by omega)]
      by_cases e3 : q = x ∨ q = z
      · rw [if_pos (by omega), if_pos (by omega)]; rfl
      · rw [if_neg (by omega), if_neg (by omega)]; rfl
    · by_cases e3 : p = z
      · rw [if_neg (show ¬ ((p = x ∨ p = y + v ∨ p = z + v) ∧ _) from fun h => by omega), if_neg (show ¬ ((p = y ∨ p = x + v ∨ p = z + v) ∧ _) from fun h => by omega)]
        by_cases e4 : q = x ∨ q = y
        · rw [if_pos (by omega), if_pos (by omega)]; rfl
        · rw [if_neg (by omega), if_neg (by omega)]; rfl
      · rw [if_neg (by omega), if_neg (by omega), if_neg (by omega), if_neg (by omega)]; rfl
theorem tri_high {v p q : Nat} {b : List Nat} (h : Pts v b) (h3 : b.length = 3) (hn : p ≠ q) : nb (tri v b) [p + v, q + v] = if p ∈ b ∧ q ∈ b then 1 else 0 := by
  obtain ⟨x, y, z, rfl, hx, hy, hz, h1, h2, h3'⟩ := three_of h h3
  rw [nb_pair]
  unfold tri
  simp only [List.map_cons, List.map_nil, List.sum_cons, List.sum_nil, List.mem_cons, List.not_mem_nil, or_false]
  by_cases e1 : (p = y ∨ p = z) ∧ (q = y ∨ q = z)
  · rw [if_pos (by omega), if_neg (by omega), if_neg (by omega), if_pos (by omega)]; rfl
  · by_cases e2 : (p = x ∨ p = z) ∧ (q = x ∨ q = z)
    · rw [if_neg (by omega), if_pos (by omega), if_neg (by omega), if_pos (by omega)]; rfl
    · by_cases e3 : (p = x ∨ p = y) ∧ (q = x ∨ q = y)
      · rw [if_neg (by omega), if_neg (by omega), if_pos (by omega), if_pos (by omega)]; rfl
      · rw [if_neg (by omega), if_neg (by omega), if_neg (by omega), if_neg (by omega)]; rfl
theorem tri_top {v p : Nat} {b : List Nat} (h : Pts v b) (h3 : b.length = 3) : nb (tri v b) [p, 2 * v] = 0 := by
  obtain ⟨x, y, z, rfl, hx, hy, hz, _, _, _⟩ := three_of h h3
  rw [nb_pair]
  unfold tri
  simp only [List.map_cons, List.map_nil, List.sum_cons, List.sum_nil, List.mem_cons, List.not_mem_nil, or_false]
  rw [if_neg (by omega), if_neg (by omega), if_neg (by omega)]; rfl
theorem sum_zero {B : List (List Nat)} {f : List Nat → Nat} (h : ∀ b ∈ B, f b = 0) : (B.map f).sum = 0 := by
  induction B with
  | nil => rfl
  | cons b B ih => rw [List.map_cons, List.sum_cons, h b (by simp), ih fun c hc => h c (by simp [hc])]
theorem nb_out {v p q : Nat} {B : List (List Nat)} (h : Bls v B) (hq : v ≤ q) : nb B [p, q] = 0 := by
  rw [nb_pair]
  exact sum_zero fun b hb => if_neg fun ⟨_, h2⟩ => by have := (h b hb).lt q h2; omega
theorem spk_nb (v p q : Nat) : nb (spk v) [p, q] = (List.range v).countP fun x => decide ((p = x ∨ p = x + v ∨ p = 2 * v) ∧ (q = x ∨ q = x + v ∨ q = 2 * v)) := by
  unfold nb spk
  rw [List.countP_map]
  exact List.countP_congr fun x _ => by simp
theorem count_one {v a : Nat} {p : Nat → Bool} (ha : a < v) (h : ∀ x, x < v → (p x = true ↔ x = a)) : (List.range v).countP p = 1 := by
  have hp : Pts v [a] := ⟨by simp, fun q hq => by
    have e : q = a := by simpa using hq
    rw [e]; exact ha⟩
  have e := countP_pts hp (fun _ => true)
  rw [show [a].countP (fun _ => true) = 1 from rfl] at e
  rw [← e]
  exact List.countP_congr fun x hx => by rw [h x (List.mem_range.1 hx)]; simp
theorem count_none {v : Nat} {p : Nat → Bool} (h : ∀ x, x < v → p x = false) : (List.range v).countP p = 0 := List.countP_eq_zero.2 fun x hx => by rw [h x (List.mem_range.1 hx)]; simp
theorem nb_swap (B : List (List Nat)) (p q : Nat) : nb B [p, q] = nb B [q, p] := by
  rw [nb_pair, nb_pair]
  exact sum_congr fun b _ => by simp only [and_comm]
/-- Doubled, a system is one. -/
theorem dbl_sys {v : Nat} {B : List (List Nat)} (h : Sys v B) : Sys (2 * v + 1) (dbl v B) := by
  have key : ∀ p q, p < q → q < 2 * v + 1 → nb (dbl v B) [p, q] = 1 := fun p q hpq hq => by
    unfold dbl
    rw [nb_append, nb_append, nb_flat, spk_nb]
    by_cases c1 : q < v
    · rw [h.l2 p q (by omega) c1 (by omega), count_none fun x hx => decide_eq_false (by omega), sum_zero fun b hb => tri_low (h.bl b hb) (h.sz b hb) (by omega) c1 (by omega)]
    · rw [nb_out h.bl (by omega)]
      by_cases c2 : q = 2 * v
      · subst c2
        rw [sum_zero fun b hb => tri_top (h.bl b hb) (h.sz b hb)]
        rcases Nat.lt_or_ge p v with c3 | c3
        · rw [count_one (a := p) c3 fun x hx => by rw [decide_eq_true_eq]; omega]
        · rw [count_one (a := p - v) (by omega) fun x hx => by rw [decide_eq_true_eq]; omega]
      · obtain ⟨q', rfl⟩ : ∃ q', q = q' + v := ⟨q - v, by omega⟩
        rcases Nat.lt_or_ge p v with c3 | c3
        · rw [sum_congr fun b hb => tri_mix (h.bl b hb) (h.sz b hb) c3 (by omega)]
          by_cases c4 : p = q'
          · subst c4
            rw [count_one (a := p) c3 fun x hx => by rw [decide_eq_true_eq]; omega, sum_zero fun b hb => if_neg (by simp)]
          · rw [count_none fun x hx => decide_eq_false (by omega)]
            have := h.l2 p q' c3 (by omega) c4
            rw [nb_pair] at this
            have e : (B.map fun b => if p ≠ q' ∧ p ∈ b ∧ q' ∈ b then 1 else 0).sum = 1 := (congrArg List.sum (List.map_congr_left fun b _ => by simp [c4])).trans this
            rw [e]
        · obtain ⟨p', rfl⟩ : ∃ p', p = p' + v := ⟨p - v, by omega⟩
          rw [sum_congr fun b hb => tri_high (h.bl b hb) (h.sz b hb) (show p' ≠ q' by omega), count_none fun x hx => decide_eq_false (by omega)]
          have := h.l2 p' q' (by omega) (by omega) (by omega)
          rw [nb_pair] at this
          rw [this]
  refine ⟨fun b hb => ?_, fun b hb => ?_, fun p q hp hq hn => ?_⟩
  · unfold dbl at hb
    rcases List.mem_append.1 hb with hb | hb
    · rcases List.mem_append.1 hb with hb | hb
      · exact ⟨(h.bl b hb).1, fun x hx => by have := (h.bl b hb).lt x hx; omega⟩
      · obtain ⟨x, hx, rfl⟩ := List.mem_map.1 hb
        have hx := List.mem_range.1 hx
        exact ⟨by simp; omega, fun y hy => by simp at hy; omega⟩
    · obtain ⟨c, hc, hb⟩ := List.mem_flatMap.1 hb
      obtain ⟨x, y, z, rfl, hx, hy, hz, h1, h2, h3⟩ := three_of (h.bl c hc) (h.sz c hc)
      simp only [tri, List.mem_cons, List.not_mem_nil, or_false] at hb
      rcases hb with rfl | rfl | rfl
      · exact ⟨by simp; omega, fun t ht => by simp at ht; omega⟩
      · exact ⟨by simp; omega, fun t ht => by simp at ht; omega⟩
      · exact ⟨by simp; omega, fun t ht => by simp at ht; omega⟩
  · unfold dbl at hb
    rcases List.mem_append.1 hb with hb | hb
    · rcases List.mem_append.1 hb with hb | hb
      · exact h.sz b hb
      · obtain ⟨x, _, rfl⟩ := List.mem_map.1 hb
        rfl
    · obtain ⟨c, hc, hb⟩ := List.mem_flatMap.1 hb
      obtain ⟨x, y, z, rfl, _⟩ := three_of (h.bl c hc) (h.sz c hc)
      simp only [tri, List.mem_cons, List.not_mem_nil, or_false] at hb
      rcases hb with rfl | rfl | rfl <;> rfl
  · rcases Nat.lt_or_gt_of_ne hn with h' | h'
    · exact key p q h' hq
    · rw [nb_swap]; exact key q p h' hp

end Go.Proofs.YtdeofjmgjhfkcabDoor
