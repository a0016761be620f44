/- The product of two systems of triples; nothing of the program. -/
import Derived.Test.YtdeofjmgjhfkcabDoorTDou
namespace Go.Proofs.YtdeofjmgjhfkcabDoor

theorem enc_inj {w a c x y : Nat} (hc : c < w) (hy : y < w) : a * w + c = x * w + y ↔ x = a ∧ y = c := by
  constructor
  · intro h
    have h1 : (a * w + c) / w = a := by rw [Nat.add_comm, Nat.add_mul_div_right _ _ (by omega), Nat.div_eq_of_lt hc, Nat.zero_add]
    have h2 : (x * w + y) / w = x := by rw [Nat.add_comm, Nat.add_mul_div_right _ _ (by omega), Nat.div_eq_of_lt hy, Nat.zero_add]
    have h3 : x = a := by rw [← h1, ← h2, h]
    subst h3
    exact ⟨rfl, by omega⟩
  · rintro ⟨rfl, rfl⟩; rfl
theorem enc_inj' {w a c x y : Nat} (hc : c < w) (hy : y < w) : x * w + y = a * w + c ↔ x = a ∧ y = c := by rw [eq_comm]; exact enc_inj hc hy
def six (w : Nat) : List Nat → List Nat → List (List Nat)
  | [a, b, c], [x, y, z] => [[a * w + x, b * w + y, c * w + z], [a * w + x, b * w + z, c * w + y], [a * w + y, b * w + x, c * w + z], [a * w + y, b * w + z, c * w + x], [a * w + z, b * w + x, c * w + y], [a * w + z, b * w + y, c * w + x]]
  | _, _ => []
def lay1 (v w : Nat) (C : List (List Nat)) : List (List Nat) := (List.range v).flatMap fun x => C.map fun c => c.map fun y => x * w + y
def lay2 (w : Nat) (a : List Nat) : List (List Nat) := (List.range w).map fun y => a.map fun x => x * w + y
def prd (v w : Nat) (A C : List (List Nat)) : List (List Nat) := lay1 v w C ++ A.flatMap (lay2 w) ++ A.flatMap fun a => C.flatMap (six w a)
theorem six_nb {v w x x' y y' : Nat} {a c : List Nat} (ha : Pts v a) (hc : Pts w c) (ha3 : a.length = 3) (hc3 : c.length = 3) (hy : y < w) (hy' : y' < w) : nb (six w a c) [x * w + y, x' * w + y'] = if (x ≠ x' ∧ y ≠ y') ∧ (x ∈ a ∧ x' ∈ a) ∧ (y ∈ c ∧ y' ∈ c) then 1 else if x = x' ∧ y = y' ∧ x ∈ a ∧ y ∈ c then 2 else 0 := by
  obtain ⟨a0, a1, a2, rfl, _, _, _, a01, a02, a12⟩ := three_of ha ha3
  obtain ⟨c0, c1, c2, rfl, hc0, hc1, hc2, c01, c02, c12⟩ := three_of hc hc3
  rw [nb_pair]
  unfold six
  simp only [List.map_cons, List.map_nil, List.sum_cons, List.sum_nil, List.mem_cons, List.not_mem_nil, or_false, enc_inj' hc0 hy, enc_inj' hc1 hy, enc_inj' hc2 hy, enc_inj' hc0 hy', enc_inj' hc1 hy', enc_inj' hc2 hy']
  by_cases hx : x = a0 ∨ x = a1 ∨ x = a2
  · by_cases hx' : x' = a0 ∨ x' = a1 ∨ x' = a2
    · by_cases hyc : y = c0 ∨ y = c1 ∨ y = c2
      · by_cases hyc' : y' = c0 ∨ y' = c1 ∨ y' = c2
        · have s1 := Ne.symm a01
          have s2 := Ne.symm a02
          have s3 := Ne.symm a12
          have t1 := Ne.symm c01
          have t2 := Ne.symm c02
          have t3 := Ne.symm c12
          rcases hx with rfl | rfl | rfl <;> rcases hx' with rfl | rfl | rfl <;> rcases hyc with rfl | rfl | rfl <;> rcases hyc' with rfl | rfl | rfl <;> simp [a01, a02, a12, c01, c02, c12, s1, s2, s3, t1, t2, t3]
        · rw [if_neg (by omega), if_neg (by omega), if_neg (by omega), if_neg (by omega), if_neg (by omega), if_neg (by omega), if_neg (by omega), if_neg (by omega)]; rfl
      · rw [if_neg (by omega), if_neg (by omega), if_neg (by omega), if_neg (by omega), if_neg (by omega), if_neg (by omega), if_neg (by omega), if_neg (by omega)]; rfl
    · rw [if_neg (by omega), if_neg (by omega), if_neg (by omega), if_neg (by omega), if_neg (by omega), if_neg (by omega), if_neg (by omega), if_neg (by omega)]; rfl
  · rw [if_neg (by omega), if_neg (by omega), if_neg (by omega), if_neg (by omega), if_neg (by omega), if_neg (by omega), if_neg (by omega), if_neg (by omega)]; rfl

theorem lay1_nb {v w x x' y y' : Nat} {C : List (List Nat)} (hC : Bls w C) (hx : x < v) (hy : y < w) (hy' : y' < w) : nb (lay1 v w C) [x * w + y, x' * w + y'] = if x = x' then nb C [y, y'] else 0 := by
  have each : ∀ t, nb (C.map fun c => c.map fun z => t * w + z) [x * w + y, x' * w + y'] = if t = x ∧ x = x' then nb C [y, y'] else 0 := fun t => by
    rw [nb_pair, List.map_map, nb_pair]
    by_cases h : t = x ∧ x = x'
    · rw [if_pos h]
      obtain ⟨rfl, rfl⟩ := h
      refine congrArg List.sum (List.map_congr_left fun c hc => ?_)
      show (if (t * w + y ∈ c.map fun z => t * w + z) ∧ (t * w + y' ∈ c.map fun z => t * w + z) then 1 else 0) = _
      have e : ∀ z, (t * w + z ∈ c.map fun z => t * w + z) ↔ z ∈ c := fun z => by
        rw [List.mem_map]
        exact ⟨fun ⟨q, h1, h2⟩ => by obtain rfl : q = z := by omega
                                     exact h1, fun h => ⟨z, h, rfl⟩⟩
      simp only [e]
    · rw [if_neg h]
      refine sum_zero fun c hc => if_neg fun ⟨h1, h2⟩ => h ?_
      obtain ⟨q, q1, q2⟩ := List.mem_map.1 h1
      obtain ⟨q', q1', q2'⟩ := List.mem_map.1 h2
      have e1 := (enc_inj ((hC c hc).lt q q1) hy).1 q2
      have e2 := (enc_inj ((hC c hc).lt q' q1') hy').1 q2'
      exact ⟨e1.1.symm, e1.1.trans e2.1.symm⟩
  unfold lay1
  have gen : ∀ l : List Nat, l.Nodup → nb (l.flatMap fun t => C.map fun c => c.map fun z => t * w + z) [x * w + y, x' * w + y'] = if x ∈ l ∧ x = x' then nb C [y, y'] else 0 := by
    intro l hl
    induction l with
    | nil => simp [nb]
    | cons t l ih =>
      rw [List.flatMap_cons, nb_append, each t, ih (List.nodup_cons.1 hl).2]
      have hn := (List.nodup_cons.1 hl).1
      by_cases e1 : t = x
      · subst e1
        by_cases e2 : t = x'
        · rw [if_pos ⟨rfl, e2⟩, if_neg (fun h => hn h.1), if_pos ⟨by simp, e2⟩]; omega
        · rw [if_neg (fun h => e2 h.2), if_neg (fun h => e2 h.2), if_neg (fun h => e2 h.2)]
      · rw [if_neg (fun h => e1 h.1), Nat.zero_add]
        have : (x ∈ t :: l ∧ x = x') ↔ (x ∈ l ∧ x = x') := by simp [Ne.symm e1]
        simp only [this]
  rw [gen _ List.nodup_range]
  by_cases e : x = x'
  · rw [if_pos ⟨List.mem_range.2 hx, e⟩, if_pos e]
  · rw [if_neg (fun h => e h.2), if_neg e]
theorem lay2_nb {w x x' y y' : Nat} {a : List Nat} (hy : y < w) (hy' : y' < w) : nb (lay2 w a) [x * w + y, x' * w + y'] = if y = y' ∧ x ∈ a ∧ x' ∈ a then 1 else 0 := by
  unfold nb lay2
  rw [List.countP_map]
  have e : ∀ t, t < w → (((fun b : List Nat => [x * w + y, x' * w + y'].all fun z => b.contains z) ∘ fun y => a.map fun x => x * w + y) t = true ↔ (t = y ∧ t = y') ∧ x ∈ a ∧ x' ∈ a) := fun t ht => by
    show ([x * w + y, x' * w + y'].all fun z => (a.map fun x => x * w + t).contains z) = true ↔ _
    simp only [List.all_cons, List.all_nil, Bool.and_true, Bool.and_eq_true, List.contains_iff_mem, List.mem_map]
    constructor
    · rintro ⟨⟨p, p1, p2⟩, ⟨q, q1, q2⟩⟩
      have e1 := (enc_inj ht hy).1 p2
      have e2 := (enc_inj ht hy').1 q2
      exact ⟨⟨e1.2.symm, e2.2.symm⟩, e1.1 ▸ p1, e2.1 ▸ q1⟩
    · rintro ⟨⟨rfl, rfl⟩, h1, h2⟩
      exact ⟨⟨x, h1, rfl⟩, ⟨x', h2, rfl⟩⟩
  by_cases h : y = y' ∧ x ∈ a ∧ x' ∈ a
  · rw [if_pos h]
    exact count_one (a := y) hy fun t ht => by rw [e t ht]; exact ⟨fun g => g.1.1, fun g => ⟨⟨g, g.trans h.1⟩, h.2⟩⟩
  · rw [if_neg h]
    exact count_none fun t ht => by
      cases c : ((fun b : List Nat => [x * w + y, x' * w + y'].all fun z => b.contains z) ∘ fun y => a.map fun x => x * w + y) t with
      | false => rfl
      | true =>
        have := (e t ht).1 c
        exact (h ⟨this.1.1.symm.trans this.1.2, this.2⟩).elim

theorem nodup_map_on {l : List Nat} {f : Nat → Nat} (h : l.Nodup) (hf : ∀ x y, f x = f y → x = y) : (l.map f).Nodup := by
  unfold List.Nodup at h ⊢
  rw [List.pairwise_map]
  exact h.imp fun hn e => hn (hf _ _ e)
/-- The product of two systems is one. -/
theorem prd_sys {v w : Nat} {A C : List (List Nat)} (hA : Sys v A) (hC : Sys w C) : Sys (v * w) (prd v w A C) := by
  have dec : ∀ p, p < v * w → ∃ x y, p = x * w + y ∧ x < v ∧ y < w := fun p hp => by
    have hw : 0 < w := by
      rcases Nat.eq_zero_or_pos w with h | h
      · subst h; simp at hp
      · exact h
    refine ⟨p / w, p % w, ?_, ?_, Nat.mod_lt _ hw⟩
    · rw [Nat.mul_comm]; exact (Nat.div_add_mod p w).symm
    · exact (Nat.div_lt_iff_lt_mul hw).2 hp
  have enc : ∀ x y, x < v → y < w → x * w + y < v * w := fun x y hx hy => by
    have : (x + 1) * w ≤ v * w := Nat.mul_le_mul_right w hx
    rw [Nat.succ_mul] at this
    omega
  refine ⟨fun b hb => ?_, fun b hb => ?_, fun p q hp hq hn => ?_⟩
  · unfold prd at hb
    rcases List.mem_append.1 hb with hb | hb
    · rcases List.mem_append.1 hb with hb | hb
      · unfold lay1 at hb
        obtain ⟨x, hx, hb⟩ := List.mem_flatMap.1 hb
        obtain ⟨c, hc, rfl⟩ := List.mem_map.1 hb
        refine ⟨nodup_map_on (hC.bl c hc).1 fun y z e => by omega, fun y hy => ?_⟩
        obtain ⟨z, hz, rfl⟩ := List.mem_map.1 hy
        exact enc x z (List.mem_range.1 hx) ((hC.bl c hc).lt z hz)
      · obtain ⟨a, ha, hb⟩ := List.mem_flatMap.1 hb
        unfold lay2 at hb
        obtain ⟨y, hy, rfl⟩ := List.mem_map.1 hb
        have hy := List.mem_range.1 hy
        refine ⟨nodup_map_on (hA.bl a ha).1 fun x z e => ((enc_inj hy hy).1 e).1.symm, fun t ht => ?_⟩
        obtain ⟨z, hz, rfl⟩ := List.mem_map.1 ht
        exact enc z y ((hA.bl a ha).lt z hz) hy
    · obtain ⟨a, ha, hb⟩ := List.mem_flatMap.1 hb
      obtain ⟨c, hc, hb⟩ := List.mem_flatMap.1 hb
      obtain ⟨a0, a1, a2, rfl, p0, p1, p2, a01, a02, a12⟩ := three_of (hA.bl a ha) (hA.sz a ha)
      obtain ⟨c0, c1, c2, rfl, q0, q1, q2, _, _, _⟩ := three_of (hC.bl c hc) (hC.sz c hc)
      have gen : ∀ y0 y1 y2, y0 < w → y1 < w → y2 < w → Pts (v * w) [a0 * w + y0, a1 * w + y1, a2 * w + y2] := fun y0 y1 y2 h0 h1 h2 => ⟨by
        simp only [List.nodup_cons, List.mem_cons, List.not_mem_nil, or_false, not_or, not_false_eq_true, List.nodup_nil, and_true, enc_inj h0 h1, enc_inj h0 h2, enc_inj h1 h2]
        omega, fun t ht => by
        simp only [List.mem_cons, List.not_mem_nil, or_false] at ht
        rcases ht with rfl | rfl | rfl
        · exact enc _ _ p0 h0
        · exact enc _ _ p1 h1
        · exact enc _ _ p2 h2⟩
      simp only [six, List.mem_cons, List.not_mem_nil, or_false] at hb
      rcases hb with rfl | rfl | rfl | rfl | rfl | rfl
      · exact gen _ _ _ q0 q1 q2
      · exact gen _ _ _ q0 q2 q1
      · exact gen _ _ _ q1 q0 q2
      · exact gen _ _ _ q1 q2 q0
      · exact gen _ _ _ q2 q0 q1
      · exact gen _ _ _ q2 q1 q0
  · unfold prd at hb
    rcases List.mem_append.1 hb with hb | hb
    · rcases List.mem_append.1 hb with hb | hb
      · unfold lay1 at hb
        obtain ⟨x, hx, hb⟩ := List.mem_flatMap.1 hb
        obtain ⟨c, hc, rfl⟩ := List.mem_map.1 hb
        rw [List.length_map]; exact hC.sz c hc
      · obtain ⟨a, ha, hb⟩ := List.mem_flatMap.1 hb
        unfold lay2 at hb
        obtain ⟨y, hy, rfl⟩ := List.mem_map.1 hb
        rw [List.length_map]; exact hA.sz a ha
    · obtain ⟨a, ha, hb⟩ := List.mem_flatMap.1 hb
      obtain ⟨c, hc, hb⟩ := List.mem_flatMap.1 hb
      obtain ⟨a0, a1, a2, rfl, _⟩ := three_of (hA.bl a ha) (hA.sz a ha)
      obtain ⟨c0, c1, c2, rfl, _⟩ := three_of (hC.bl c hc) (hC.sz c hc)
      simp only [six, List.mem_cons, List.not_mem_nil, or_false] at hb
      rcases hb with rfl | rfl | rfl | rfl | rfl | rfl <;> rfl
  · obtain ⟨x, y, rfl, hx, hy⟩ := dec p hp
    obtain ⟨x', y', rfl, hx', hy'⟩ := dec q hq
    unfold prd
    rw [nb_append, nb_append, nb_flat, nb_flat]
    have s6 : (A.map fun a => nb (C.flatMap (six w a)) [x * w + y, x' * w + y']).sum = if x ≠ x' ∧ y ≠ y' then 1 else 0 := by
      by_cases h : x ≠ x' ∧ y ≠ y'
      · rw [if_pos h]
        have e : ∀ a ∈ A, nb (C.flatMap (six w a)) [x * w + y, x' * w + y'] = if x ∈ a ∧ x' ∈ a then 1 else 0 := fun a ha => by
          rw [nb_flat, sum_congr fun c hc => six_nb (hA.bl a ha) (hC.bl c hc) (hA.sz a ha) (hC.sz c hc) hy hy']
          have h2 := hC.l2 y y' hy hy' h.2
          rw [nb_pair] at h2
          by_cases ea : x ∈ a ∧ x' ∈ a
          · rw [if_pos ea]
            refine (congrArg List.sum (List.map_congr_left fun c _ => ?_)).trans h2
            by_cases ec : y ∈ c ∧ y' ∈ c
            · rw [if_pos ⟨h, ea, ec⟩, if_pos ec]
            · rw [if_neg (fun g => ec g.2.2), if_neg (fun g => h.1 g.1), if_neg ec]
          · rw [if_neg ea]
            exact sum_zero fun c _ => by rw [if_neg (fun g => ea g.2.1), if_neg (fun g => h.1 g.1)]
        rw [sum_congr e]
        have h2 := hA.l2 x x' hx hx' h.1
        rw [nb_pair] at h2
        exact h2
      · rw [if_neg h]
        refine sum_zero fun a ha => ?_
        rw [nb_flat]
        refine sum_zero fun c hc => ?_
        rw [six_nb (hA.bl a ha) (hC.bl c hc) (hA.sz a ha) (hC.sz c hc) hy hy', if_neg (fun g => h g.1), if_neg (fun g => hn (by rw [g.1, g.2.1]))]
    rw [s6]
    by_cases ex : x = x'
    · subst ex
      have hyy : y ≠ y' := fun e => hn (by rw [e])
      rw [lay1_nb hC.bl hx hy hy', if_pos rfl, hC.l2 y y' hy hy' hyy, if_neg (fun g => g.1 rfl)]
      have z : (A.map fun b => nb (lay2 w b) [x * w + y, x * w + y']).sum = 0 := sum_zero fun a ha => by
        rw [nb_pair]
        unfold lay2
        refine sum_zero fun b hb => if_neg fun ⟨h1, h2⟩ => ?_
        obtain ⟨t, ht, rfl⟩ := List.mem_map.1 hb
        have ht := List.mem_range.1 ht
        obtain ⟨p, _, p2⟩ := List.mem_map.1 h1
        obtain ⟨q, _, q2⟩ := List.mem_map.1 h2
        have e1 := (enc_inj ht hy).1 p2
        have e2 := (enc_inj ht hy').1 q2
        exact hyy (e1.2.trans e2.2.symm)
      rw [z]
    · rw [sum_congr fun a _ => lay2_nb hy hy']
      by_cases ey : y = y'
      · subst ey
        rw [if_neg (fun g => g.2 rfl)]
        have z : nb (lay1 v w C) [x * w + y, x' * w + y] = 0 := by
          unfold lay1
          rw [nb_pair]
          refine sum_zero fun b hb => if_neg fun ⟨h1, h2⟩ => ?_
          obtain ⟨t, _, hb⟩ := List.mem_flatMap.1 hb
          obtain ⟨c, hc, rfl⟩ := List.mem_map.1 hb
          obtain ⟨p, p1, p2⟩ := List.mem_map.1 h1
          obtain ⟨q, q1, q2⟩ := List.mem_map.1 h2
          have e1 := (enc_inj ((hC.bl c hc).lt p p1) hy).1 p2
          have e2 := (enc_inj ((hC.bl c hc).lt q q1) hy).1 q2
          exact ex (e1.1.trans e2.1.symm)
        have h2 := hA.l2 x x' hx hx' ex
        rw [nb_pair] at h2
        have e : (A.map fun a => if y = y ∧ x ∈ a ∧ x' ∈ a then 1 else 0).sum = 1 := (congrArg List.sum (List.map_congr_left fun a _ => by simp)).trans h2
        rw [z, e]
      · rw [if_pos ⟨ex, ey⟩, lay1_nb hC.bl hx hy hy', if_neg ex, sum_zero fun a _ => if_neg fun g => ey g.1]

end Go.Proofs.YtdeofjmgjhfkcabDoor
