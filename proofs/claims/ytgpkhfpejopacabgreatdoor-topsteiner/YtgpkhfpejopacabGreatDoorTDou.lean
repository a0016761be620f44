/- Systems of triples, doubled; nothing of the program. -/
import Derived.Test.YtgpkhfpejopacabGreatDoorDPart
/- Systems of triples: what counting says; nothing of the program. -/
namespace Go.Proofs.YtgpkhfpejopacabGreatDoor

/-- Kirkman's half: how many points there may be. -/
theorem kirkman_mod {v r : Nat} {B : List (List Nat)} (T : Two v 3 r 1 B) (hv : 3 < v) : v = 2 * r + 1 ∧ (v % 6 = 1 ∨ v % 6 = 3) := by
  have e1 := T.e1
  have e2 := T.e2
  have hvr : v = 2 * r + 1 := by omega
  refine ⟨hvr, ?_⟩
  obtain ⟨s, hs⟩ : ∃ s, r = 3 * s ∨ r = 3 * s + 1 ∨ r = 3 * s + 2 := ⟨r / 3, by omega⟩
  rcases hs with hs | hs | hs
  · left; omega
  · right; omega
  · exfalso
    have e3 : r * v = 3 * (6 * (s * s) + 9 * s + 3) + 1 := by
      rw [hvr, hs]
      grind
    omega
/-- How many blocks of a system meet: a point that is not in a block lies with each of its three in one block, so that just r - 3 of its blocks miss it. -/
def mis (B : List (List Nat)) (b : List Nat) (x : Nat) : Nat := B.countP fun c => c.contains x && (b.all fun y => !c.contains y)
/-- Each block has at most one point of another, but for one that has as many. -/
theorem one_of_three {v r : Nat} {B : List (List Nat)} (T : Two v 3 r 1 B) {b c : List Nat} (hb : b ∈ B) (hc : c ∈ B) {x : Nat} (hx : x ∈ c) (hxb : x ∉ b) {y z : Nat} (hy : y ∈ b) (hz : z ∈ b) (hyc : y ∈ c) (hzc : z ∈ c) : y = z := by
  rcases Classical.em (y = z) with e | e
  · exact e
  · exfalso
    have hp : Pts v [y, z] := ⟨by simp [e], fun q hq => by
      have hq' : q = y ∨ q = z := by simpa using hq
      rcases hq' with rfl | rfl
      · exact (T.bl b hb).lt _ hy
      · exact (T.bl b hb).lt _ hz⟩
    have h1 := T.l2 [y, z] hp rfl
    have hbc : b ≠ c := fun e => hxb (e ▸ hx)
    have h2 : 2 ≤ nb B [y, z] := by
      unfold nb
      have hs : ∀ l : List (List Nat), b ∈ l → c ∈ l → 2 ≤ l.countP fun d => [y, z].all fun x => d.contains x := by
        intro l
        induction l with
        | nil => intro h; simp at h
        | cons d l ih =>
          intro hbl hcl
          rw [List.countP_cons]
          have one : ∀ {e : List Nat} {l : List (List Nat)}, e ∈ l → (y ∈ e ∧ z ∈ e) → 1 ≤ l.countP fun d => [y, z].all fun x => d.contains x := fun {e l} he hyz => List.countP_pos_iff.2 ⟨e, he, by simp [hyz.1, hyz.2]⟩
          by_cases e1 : d = b
          · have hcl' : c ∈ l := by
              rcases List.mem_cons.1 hcl with h | h
              · exact (hbc (e1.symm.trans h.symm)).elim
              · exact h
            have := one hcl' ⟨hyc, hzc⟩
            rw [if_pos (by rw [e1]; simp [hy, hz])]
            omega
          · by_cases e2 : d = c
            · have hbl' : b ∈ l := by
                rcases List.mem_cons.1 hbl with h | h
                · exact (e1 h.symm).elim
                · exact h
              have := one hbl' ⟨hy, hz⟩
              rw [if_pos (by rw [e2]; simp [hyc, hzc])]
              omega
            · have h1 := ih (by
                rcases List.mem_cons.1 hbl with h | h
                · exact (e1 h.symm).elim
                · exact h) (by
                rcases List.mem_cons.1 hcl with h | h
                · exact (e2 h.symm).elim
                · exact h)
              omega
      exact hs B hb hc
    omega
theorem mis_split {b : List Nat} {x y z t : Nat} (hb : b = [y, z, t]) (hyz : y ≠ z) (hyt : y ≠ t) (hzt : z ≠ t) : ∀ {B : List (List Nat)}, (∀ c ∈ B, x ∈ c → ∀ p ∈ b, ∀ q ∈ b, p ∈ c → q ∈ c → p = q) → nb B [x] = nb B [x, y] + nb B [x, z] + nb B [x, t] + mis B b x
  | [], _ => rfl
  | c :: B, h => by
    have ih := mis_split hb hyz hyt hzt (B := B) fun d hd => h d (by simp [hd])
    have hc := h c (by simp)
    unfold nb mis at ih ⊢
    subst hb
    rw [List.countP_cons, List.countP_cons, List.countP_cons, List.countP_cons, List.countP_cons, ih]
    by_cases hx : x ∈ c
    · have h1 := fun p hp q hq => hc hx p hp q hq
      by_cases e1 : y ∈ c
      · have e2 : z ∉ c := fun e => hyz (h1 y (by simp) z (by simp) e1 e)
        have e3 : t ∉ c := fun e => hyt (h1 y (by simp) t (by simp) e1 e)
        simp [hx, e1, e2, e3]; omega
      · by_cases e2 : z ∈ c
        · have e3 : t ∉ c := fun e => hzt (h1 z (by simp) t (by simp) e2 e)
          simp [hx, e1, e2, e3]; omega
        · by_cases e3 : t ∈ c
          · simp [hx, e1, e2, e3]; omega
          · simp [hx, e1, e2, e3]; omega
    · simp [hx]
/-- Of the blocks of a point all but three miss a block that it is not in. -/
theorem mis_is {v r : Nat} {B : List (List Nat)} (T : Two v 3 r 1 B) {b : List Nat} (hb : b ∈ B) {x : Nat} (hxv : x < v) (hx : x ∉ b) : mis B b x + 3 = r := by
  have h3 := T.sz b hb
  obtain ⟨y, z, t, rfl⟩ : ∃ y z t, b = [y, z, t] := by
    match b, h3 with
    | [y, z, t], _ => exact ⟨y, z, t, rfl⟩
  have hnd := (T.bl _ hb).1
  simp only [List.nodup_cons, List.mem_cons, List.not_mem_nil, or_false, not_or, not_false_eq_true, List.nodup_nil, and_true] at hnd
  obtain ⟨⟨hyz, hyt⟩, hzt⟩ := hnd
  have hs := mis_split (x := x) rfl hyz hyt hzt (B := B) fun c hc hxc p hp q hq hpc hqc => one_of_three T hb hc hxc hx hp hq hpc hqc
  have h1 : nb B [x] = r := T.l1 [x] ⟨by simp, fun q hq => by
    have e : q = x := by simpa using hq
    rw [e]; exact hxv⟩ rfl
  have two : ∀ p, p ∈ [y, z, t] → nb B [x, p] = 1 := fun p hp => T.l2 [x, p] ⟨by simp; exact fun e => hx (e ▸ hp), fun q hq => by
    have hq' : q = x ∨ q = p := by simpa using hq
    rcases hq' with rfl | rfl
    · exact hxv
    · exact (T.bl _ hb).lt _ hp⟩ rfl
  rw [h1, two y (by simp), two z (by simp), two t (by simp)] at hs
  omega

theorem count_two {p : List Nat → Bool} : ∀ {B : List (List Nat)} {i j : Nat}, i < j → j < B.length → p (B.getD i []) = true → p (B.getD j []) = true → 2 ≤ B.countP p
  | [], i, j, _, h, _, _ => by simp at h
  | b :: B, i, j, hij, hj, h1, h2 => by
    rw [List.countP_cons]
    obtain ⟨j, rfl⟩ : ∃ k, j = k + 1 := ⟨j - 1, by omega⟩
    have hj' : j < B.length := by simpa using hj
    have h2' : p (B.getD j []) = true := by simpa using h2
    cases i with
    | zero =>
      have hb : p b = true := by simpa using h1
      have : 1 ≤ B.countP p := List.countP_pos_iff.2 ⟨B.getD j [], by rw [List.getD_eq_getElem?_getD, List.getElem?_eq_getElem hj']; exact List.getElem_mem hj', h2'⟩
      rw [if_pos hb]; omega
    | succ i =>
      have := count_two (p := p) (B := B) (i := i) (j := j) (by omega) hj' (by simpa using h1) h2'
      omega
theorem mem_at {B : List (List Nat)} {i : Nat} (hi : i < B.length) : B.getD i [] ∈ B := by rw [List.getD_eq_getElem?_getD, List.getElem?_eq_getElem hi]; exact List.getElem_mem hi
/-- Two blocks of a system have at most one point together. -/
theorem at_most_one {v r : Nat} {B : List (List Nat)} (T : Two v 3 r 1 B) {i j : Nat} (hi : i < B.length) (hj : j < B.length) (hn : i ≠ j) {y z : Nat} (h1 : y ∈ B.getD i []) (h2 : z ∈ B.getD i []) (h3 : y ∈ B.getD j []) (h4 : z ∈ B.getD j []) : y = z := by
  rcases Classical.em (y = z) with e | e
  · exact e
  · exfalso
    have hp : Pts v [y, z] := ⟨by simp [e], fun q hq => by
      have hq' : q = y ∨ q = z := by simpa using hq
      rcases hq' with rfl | rfl
      · exact (T.bl _ (mem_at hi)).lt _ h1
      · exact (T.bl _ (mem_at hi)).lt _ h2⟩
    have e1 := T.l2 [y, z] hp rfl
    have e2 : 2 ≤ nb B [y, z] := by
      unfold nb
      rcases Nat.lt_or_gt_of_ne hn with h | h
      · exact count_two (i := i) (j := j) h hj (by simpa using ⟨h1, h2⟩) (by simpa using ⟨h3, h4⟩)
      · exact count_two (i := j) (j := i) h hi (by simpa using ⟨h3, h4⟩) (by simpa using ⟨h1, h2⟩)
    omega
/-- So a block has a point beside another. -/
theorem beside {v r : Nat} {B : List (List Nat)} (T : Two v 3 r 1 B) {i j : Nat} (hi : i < B.length) (hj : j < B.length) (hn : i ≠ j) : ∃ x, x ∈ B.getD j [] ∧ x ∉ B.getD i [] := by
  have h3 := T.sz _ (mem_at hj)
  have hnd := (T.bl _ (mem_at hj)).1
  generalize hc : B.getD j [] = c at h3 hnd
  match c, h3, hnd, hc with
  | [y, z, t], _, hnd, hc =>
    have hyz : y ≠ z := by simp at hnd; exact hnd.1.1
    rcases Classical.em (y ∈ B.getD i []) with e | e
    · refine ⟨z, by simp, fun e2 => hyz ?_⟩
      exact at_most_one T hi hj hn e e2 (by rw [hc]; simp) (by rw [hc]; simp)
    · exact ⟨y, by simp, e⟩
/-- Of seven points each two blocks meet. -/
theorem seven_meet {r : Nat} {B : List (List Nat)} (T : Two 7 3 r 1 B) {i j : Nat} (hi : i < B.length) (hj : j < B.length) (hn : i ≠ j) : ∃ x, x ∈ B.getD i [] ∧ x ∈ B.getD j [] := by
  obtain ⟨x, h1, h2⟩ := beside T hi hj hn
  have hr := (kirkman_mod T (by decide)).1
  have hm := mis_is T (mem_at hi) ((T.bl _ (mem_at hj)).lt _ h1) h2
  rcases Classical.em (∃ x, x ∈ B.getD i [] ∧ x ∈ B.getD j []) with h | h
  · exact h
  · exfalso
    have : 1 ≤ mis B (B.getD i []) x := by
      unfold mis
      refine List.countP_pos_iff.2 ⟨B.getD j [], mem_at hj, ?_⟩
      rw [Bool.and_eq_true]
      refine ⟨List.contains_iff_mem.2 h1, List.all_eq_true.2 fun y hy => ?_⟩
      simpa using fun hy2 => h ⟨y, hy, hy2⟩
    omega

end Go.Proofs.YtgpkhfpejopacabGreatDoor

namespace Go.Proofs.YtgpkhfpejopacabGreatDoor

/-- A system of triples. -/
structure Sys (v : Nat) (B : List (List Nat)) : Prop where
  bl : Bls v B
  sz : ∀ b ∈ B, b.length = 3
  l2 : ∀ p q, p < v → q < v → p ≠ q → nb B [p, q] = 1
theorem nb_append (A B : List (List Nat)) (s : List Nat) : nb (A ++ B) s = nb A s + nb B s := by unfold nb; rw [List.countP_append]
theorem nb_flat (f : List Nat → List (List Nat)) (s : List Nat) : ∀ B : List (List Nat), nb (B.flatMap f) s = (B.map fun b => nb (f b) s).sum
  | [] => rfl
  | b :: B => by rw [List.flatMap_cons, nb_append, nb_flat f s B]; rfl
theorem nb_sum (s : List Nat) : ∀ B : List (List Nat), nb B s = (B.map fun b => if (s.all fun x => b.contains x) = true then 1 else 0).sum
  | [] => rfl
  | b :: B => by
    have := nb_sum s B
    unfold nb at this ⊢
    rw [List.countP_cons, this, List.map_cons, List.sum_cons, Nat.add_comm]
theorem sum_congr {f g : List Nat → Nat} {B : List (List Nat)} (h : ∀ b ∈ B, f b = g b) : (B.map f).sum = (B.map g).sum := by rw [List.map_congr_left h]
def tri (v : Nat) : List Nat → List (List Nat)
  | [x, y, z] => [[x, y + v, z + v], [y, x + v, z + v], [z, x + v, y + v]]
  | _ => []
def spk (v : Nat) : List (List Nat) := (List.range v).map fun x => [x, x + v, 2 * v]
def dbl (v : Nat) (B : List (List Nat)) : List (List Nat) := B ++ spk v ++ B.flatMap (tri v)
theorem three_of {v : Nat} {b : List Nat} (h : Pts v b) (h3 : b.length = 3) : ∃ x y z, b = [x, y, z] ∧ x < v ∧ y < v ∧ z < v ∧ x ≠ y ∧ x ≠ z ∧ y ≠ z := by
  match b, h3, h with
  | [x, y, z], _, h =>
    have hn := h.1
    simp only [List.nodup_cons, List.mem_cons, List.not_mem_nil, or_false, not_or, not_false_eq_true, List.nodup_nil, and_true] at hn
    exact ⟨x, y, z, rfl, h.lt x (by simp), h.lt y (by simp), h.lt z (by simp), hn.1.1, hn.1.2, hn.2⟩
theorem nb_pair (B : List (List Nat)) (p q : Nat) : nb B [p, q] = (B.map fun b => if p ∈ b ∧ q ∈ b then 1 else 0).sum := by
  rw [nb_sum]
  exact sum_congr fun b _ => by simp
theorem tri_low {v p q : Nat} {b : List Nat} (h : Pts v b) (h3 : b.length = 3) (hp : p < v) (hq : q < v) (hn : p ≠ q) : nb (tri v b) [p, q] = 0 := by
  obtain ⟨x, y, z, rfl, hx, hy, hz, _, _, _⟩ := three_of h h3
  rw [nb_pair]
  unfold tri
  simp only [List.map_cons, List.map_nil, List.sum_cons, List.sum_nil, List.mem_cons, List.not_mem_nil, or_false]
  rw [if_neg (by omega), if_neg (by omega), if_neg (by omega)]; rfl
theorem tri_mix {v p q : Nat} {b : List Nat} (h : Pts v b) (h3 : b.length = 3) (hp : p < v) (hq : q < v) : nb (tri v b) [p, q + v] = if p ≠ q ∧ p ∈ b ∧ q ∈ b then 1 else 0 := by
  obtain ⟨x, y, z, rfl, hx, hy, hz, h1, h2, h3'⟩ := three_of h h3
  rw [nb_pair]
  unfold tri
  simp only [List.map_cons, List.map_nil, List.sum_cons, List.sum_nil, List.mem_cons, List.not_mem_nil, or_false]
  by_cases e1 : p = x
  · rw [if_neg (show ¬ ((p = y ∨ p = x + v ∨ p = z + v) ∧ _) from fun h => by omega), if_neg (show ¬ ((p = z ∨ p = x + v ∨ p = y + v) ∧ _) from fun h => by omega)]
    by_cases e2 : q = y ∨ q = z
    · rw [if_pos (by omega), if_pos (by omega)]; rfl
    · rw [if_neg (by omega), if_neg (by omega)]; rfl
  · by_cases e2 : p = y
    · rw [if_neg (show ¬ ((p = x ∨ p = y + v ∨ p = z + v) ∧ _) from fun h => by omega), if_neg (show ¬ ((p = z ∨ p = x + v ∨ p = y + v) ∧ _) from fun h => by omega)]
      by_cases e3 : q = x ∨ q = z
      · rw [if_pos (by omega), if_pos (by omega)]; rfl
      · rw [if_neg (by omega), if_neg (by omega)]; rfl
    · by_cases e3 : p = z
      · rw [if_neg (show ¬ ((p = x ∨ p = y + v ∨ p = z + v) ∧ _) from fun h => by omega), if_neg (show ¬ ((p = y ∨ p = x + v ∨ p = z + v) ∧ _) from fun h => by omega)]
        by_cases e4 : q = x ∨ q = y
        · rw [if_pos (by omega), if_pos (by omega)]; rfl
        · rw [if_neg (by omega), if_neg (by omega)]; rfl
      · rw [if_neg (by omega), if_neg (by omega), if_neg (by omega), if_neg (by omega)]; rfl
theorem tri_high {v p q : Nat} {b : List Nat} (h : Pts v b) (h3 : b.length = 3) (hn : p ≠ q) : nb (tri v b) [p + v, q + v] = if p ∈ b ∧ q ∈ b then 1 else 0 := by
  obtain ⟨x, y, z, rfl, hx, hy, hz, h1, h2, h3'⟩ := three_of h h3
  rw [nb_pair]
  unfold tri
  simp only [List.map_cons, List.map_nil, List.sum_cons, List.sum_nil, List.mem_cons, List.not_mem_nil, or_false]
  by_cases e1 : (p = y ∨ p = z) ∧ (q = y ∨ q = z)
  · rw [if_pos (by omega), if_neg (by omega), if_neg (by omega), if_pos (by omega)]; rfl
  · by_cases e2 : (p = x ∨ p = z) ∧ (q = x ∨ q = z)
    · rw [if_neg (by omega), if_pos (by omega), if_neg (by omega), if_pos (by omega)]; rfl
    · by_cases e3 : (p = x ∨ p = y) ∧ (q = x ∨ q = y)
      · rw [if_neg (by omega), if_neg (by omega), if_pos (by omega), if_pos (by omega)]; rfl
      · rw [if_neg (by omega), if_neg (by omega), if_neg (by omega), if_neg (by omega)]; rfl
theorem tri_top {v p : Nat} {b : List Nat} (h : Pts v b) (h3 : b.length = 3) : nb (tri v b) [p, 2 * v] = 0 := by
  obtain ⟨x, y, z, rfl, hx, hy, hz, _, _, _⟩ := three_of h h3
  rw [nb_pair]
  unfold tri
  simp only [List.map_cons, List.map_nil, List.sum_cons, List.sum_nil, List.mem_cons, List.not_mem_nil, or_false]
  rw [if_neg (by omega), if_neg (by omega), if_neg (by omega)]; rfl
theorem sum_zero {B : List (List Nat)} {f : List Nat → Nat} (h : ∀ b ∈ B, f b = 0) : (B.map f).sum = 0 := by
  induction B with
  | nil => rfl
  | cons b B ih => rw [List.map_cons, List.sum_cons, h b (by simp), ih fun c hc => h c (by simp [hc])]
theorem nb_out {v p q : Nat} {B : List (List Nat)} (h : Bls v B) (hq : v ≤ q) : nb B [p, q] = 0 := by
  rw [nb_pair]
  exact sum_zero fun b hb => if_neg fun ⟨_, h2⟩ => by have := (h b hb).lt q h2; omega
theorem spk_nb (v p q : Nat) : nb (spk v) [p, q] = (List.range v).countP fun x => decide ((p = x ∨ p = x + v ∨ p = 2 * v) ∧ (q = x ∨ q = x + v ∨ q = 2 * v)) := by
  unfold nb spk
  rw [List.countP_map]
  exact List.countP_congr fun x _ => by simp
theorem count_one {v a : Nat} {p : Nat → Bool} (ha : a < v) (h : ∀ x, x < v → (p x = true ↔ x = a)) : (List.range v).countP p = 1 := by
  have hp : Pts v [a] := ⟨by simp, fun q hq => by
    have e : q = a := by simpa using hq
    rw [e]; exact ha⟩
  have e := countP_pts hp (fun _ => true)
  rw [show [a].countP (fun _ => true) = 1 from rfl] at e
  rw [← e]
  exact List.countP_congr fun x hx => by rw [h x (List.mem_range.1 hx)]; simp
theorem count_none {v : Nat} {p : Nat → Bool} (h : ∀ x, x < v → p x = false) : (List.range v).countP p = 0 := List.countP_eq_zero.2 fun x hx => by rw [h x (List.mem_range.1 hx)]; simp
theorem nb_swap (B : List (List Nat)) (p q : Nat) : nb B [p, q] = nb B [q, p] := by
  rw [nb_pair, nb_pair]
  exact sum_congr fun b _ => by simp only [and_comm]
/-- Doubled, a system is one. -/
theorem dbl_sys {v : Nat} {B : List (List Nat)} (h : Sys v B) : Sys (2 * v + 1) (dbl v B) := by
  have key : ∀ p q, p < q → q < 2 * v + 1 → nb (dbl v B) [p, q] = 1 := fun p q hpq hq => by
    unfold dbl
    rw [nb_append, nb_append, nb_flat, spk_nb]
    by_cases c1 : q < v
    · rw [h.l2 p q (by omega) c1 (by omega), count_none fun x hx => decide_eq_false (by omega), sum_zero fun b hb => tri_low (h.bl b hb) (h.sz b hb) (by omega) c1 (by omega)]
    · rw [nb_out h.bl (by omega)]
      by_cases c2 : q = 2 * v
      · subst c2
        rw [sum_zero fun b hb => tri_top (h.bl b hb) (h.sz b hb)]
        rcases Nat.lt_or_ge p v with c3 | c3
        · rw [count_one (a := p) c3 fun x hx => by rw [decide_eq_true_eq]; omega]
        · rw [count_one (a := p - v) (by omega) fun x hx => by rw [decide_eq_true_eq]; omega]
      · obtain ⟨q', rfl⟩ : ∃ q', q = q' + v := ⟨q - v, by omega⟩
        rcases Nat.lt_or_ge p v with c3 | c3
        · rw [sum_congr fun b hb => tri_mix (h.bl b hb) (h.sz b hb) c3 (by omega)]
          by_cases c4 : p = q'
          · subst c4
            rw [count_one (a := p) c3 fun x hx => by rw [decide_eq_true_eq]; omega, sum_zero fun b hb => if_neg (by simp)]
          · rw [count_none fun x hx => decide_eq_false (by omega)]
            have := h.l2 p q' c3 (by omega) c4
            rw [nb_pair] at this
            have e : (B.map fun b => if p ≠ q' ∧ p ∈ b ∧ q' ∈ b then 1 else 0).sum = 1 := (congrArg List.sum (List.map_congr_left fun b _ => by simp [c4])).trans this
            rw [e]
        · obtain ⟨p', rfl⟩ : ∃ p', p = p' + v := ⟨p - v, by omega⟩
          rw [sum_congr fun b hb => tri_high (h.bl b hb) (h.sz b hb) (show p' ≠ q' by omega), count_none fun x hx => decide_eq_false (by omega)]
          have := h.l2 p' q' (by omega) (by omega) (by omega)
          rw [nb_pair] at this
          rw [this]
  refine ⟨fun b hb => ?_, fun b hb => ?_, fun p q hp hq hn => ?_⟩
  · unfold dbl at hb
    rcases List.mem_append.1 hb with hb | hb
    · rcases List.mem_append.1 hb with hb | hb
      · exact ⟨(h.bl b hb).1, fun x hx => by have := (h.bl b hb).lt x hx; omega⟩
      · obtain ⟨x, hx, rfl⟩ := List.mem_map.1 hb
        have hx := List.mem_range.1 hx
        exact ⟨by simp; omega, fun y hy => by simp at hy; omega⟩
    · obtain ⟨c, hc, hb⟩ := List.mem_flatMap.1 hb
      obtain ⟨x, y, z, rfl, hx, hy, hz, h1, h2, h3⟩ := three_of (h.bl c hc) (h.sz c hc)
      simp only [tri, List.mem_cons, List.not_mem_nil, or_false] at hb
      rcases hb with rfl | rfl | rfl
      · exact ⟨by simp; omega, fun t ht => by simp at ht; omega⟩
      · exact ⟨by simp; omega, fun t ht => by simp at ht; omega⟩
      · exact ⟨by simp; omega, fun t ht => by simp at ht; omega⟩
  · unfold dbl at hb
    rcases List.mem_append.1 hb with hb | hb
    · rcases List.mem_append.1 hb with hb | hb
      · exact h.sz b hb
      · obtain ⟨x, _, rfl⟩ := List.mem_map.1 hb
        rfl
    · obtain ⟨c, hc, hb⟩ := List.mem_flatMap.1 hb
      obtain ⟨x, y, z, rfl, _⟩ := three_of (h.bl c hc) (h.sz c hc)
      simp only [tri, List.mem_cons, List.not_mem_nil, or_false] at hb
      rcases hb with rfl | rfl | rfl <;> rfl
  · rcases Nat.lt_or_gt_of_ne hn with h' | h'
    · exact key p q h' hq
    · rw [nb_swap]; exact key q p h' hp

end Go.Proofs.YtgpkhfpejopacabGreatDoor
