/- Systems grown out of some blocks: the search that goes to the first two points that are apart yet. -/
import Derived.Test.YtgpkhfpejopacabGreatDoorTDou
import Derived.Test.YtgpkhfpejopacabGreatDoorTPas
import Derived.Test.YtgpkhfpejopacabGreatDoorTSo
/- Systems that are made are systems: reckoned; nothing of the program. -/
namespace Go.Proofs.YtgpkhfpejopacabGreatDoor

theorem dS_eq_of_le {α : Type} {f g : α → Nat} : ∀ {l : List α}, (∀ a ∈ l, g a ≤ f a) → dS l f = dS l g → ∀ a ∈ l, f a = g a
  | [], _, _, a, ha => by simp at ha
  | b :: l, h, e, a, ha => by
    rw [dS_cons, dS_cons] at e
    have h1 := h b (by simp)
    have h2 : dS l g ≤ dS l f := by
      clear e ha
      have h3 : ∀ a ∈ l, g a ≤ f a := fun a ha => h a (by simp [ha])
      clear h h1
      induction l with
      | nil => exact Nat.le_refl _
      | cons c l ih => rw [dS_cons, dS_cons]; exact Nat.add_le_add (h3 c (by simp)) (ih fun a ha => h3 a (by simp [ha]))
    rcases List.mem_cons.1 ha with rfl | ha
    · omega
    · exact dS_eq_of_le (fun a ha => h a (by simp [ha])) (by omega) a ha
theorem dS_le {α : Type} {f g : α → Nat} : ∀ {l : List α}, (∀ a ∈ l, g a ≤ f a) → dS l g ≤ dS l f
  | [], _ => Nat.le_refl _
  | c :: l, h => by rw [dS_cons, dS_cons]; exact Nat.add_le_add (h c (by simp)) (dS_le fun a ha => h a (by simp [ha]))
theorem dS_one_in {v : Nat} {b : List Nat} (h : Pts v b) : dS (List.range v) (fun p => if p ∈ b then 1 else 0) = b.length := by
  have e := countP_pts h (fun _ => true)
  have e2 : b.countP (fun _ => true) = b.length := by simp
  rw [e2] at e
  rw [← e, ← dS_count]
  exact dS_congr fun p _ => by simp
/-- How often two points lie together, told over all pairs. -/
theorem nb_total {v : Nat} : ∀ {B : List (List Nat)}, Bls v B → (∀ b ∈ B, b.length = 3) → dS (List.range v) (fun p => dS (List.range v) fun q => if p = q then 0 else nb B [p, q]) = 6 * B.length
  | [], _, _ => by
    have : ∀ p ∈ List.range v, dS (List.range v) (fun q => if p = q then 0 else nb [] [p, q]) = 0 := fun p _ => by
      rw [dS_congr (g := fun _ => 0) fun q _ => by by_cases h : p = q <;> simp [h, nb], dS_const]; omega
    rw [dS_congr this, dS_const]; simp
  | b :: B, h, h3 => by
    have ih := nb_total (B := B) (fun c hc => h c (by simp [hc])) fun c hc => h3 c (by simp [hc])
    have hb := h b (by simp)
    obtain ⟨x, y, z, e, hx, hy, hz, n1, n2, n3⟩ := three_of hb (h3 b (by simp))
    have e1 : ∀ p q, (if p = q then 0 else nb (b :: B) [p, q]) = (if p = q then 0 else nb B [p, q]) + (if p ≠ q ∧ p ∈ b ∧ q ∈ b then 1 else 0) := fun p q => by
      by_cases h1 : p = q
      · simp [h1]
      · rw [if_neg h1, if_neg h1]
        unfold nb
        rw [List.countP_cons]
        simp [h1]
    have e2 : dS (List.range v) (fun p => dS (List.range v) fun q => if p = q then 0 else nb (b :: B) [p, q]) = dS (List.range v) (fun p => dS (List.range v) fun q => if p = q then 0 else nb B [p, q]) + dS (List.range v) (fun p => dS (List.range v) fun q => if p ≠ q ∧ p ∈ b ∧ q ∈ b then 1 else 0) := by
      rw [← dS_add]
      refine dS_congr fun p _ => ?_
      rw [← dS_add]
      exact dS_congr fun q _ => e1 p q
    have e3 : ∀ p, p ∈ List.range v → dS (List.range v) (fun q => if p ≠ q ∧ p ∈ b ∧ q ∈ b then 1 else 0) = if p ∈ b then 2 else 0 := fun p _ => by
      by_cases hp : p ∈ b
      · rw [if_pos hp]
        have k1 := dS_one_in hb
        have k2 : dS (List.range v) (fun q => if q ∈ b then 1 else 0) = dS (List.range v) (fun q => if p ≠ q ∧ p ∈ b ∧ q ∈ b then 1 else 0) + dS (List.range v) (fun q => if q ∈ [p] then 1 else 0) := by
          rw [← dS_add]
          refine dS_congr fun q _ => ?_
          by_cases h1 : q = p
          · subst h1; simp [hp]
          · have h2 : p ≠ q := fun e => h1 e.symm
            simp [h1, h2, hp]
        have k3 := dS_one_in (v := v) (b := [p]) ⟨by simp, fun q hq => by
          have : q = p := by simpa using hq
          rw [this]; exact hb.lt p hp⟩
        rw [k3, k1, h3 b (by simp)] at k2
        simp at k2
        omega
      · rw [if_neg hp, dS_congr (g := fun _ => 0) fun q _ => if_neg fun h => hp h.2.1, dS_const]; omega
    have e4 : dS (List.range v) (fun p => if p ∈ b then 2 else 0) = 6 := by
      have k1 := dS_one_in hb
      rw [h3 b (by simp)] at k1
      have k2 : dS (List.range v) (fun p => if p ∈ b then 2 else 0) = 2 * dS (List.range v) (fun p => if p ∈ b then 1 else 0) := by
        rw [← dS_mul]
        exact dS_congr fun p _ => by by_cases h : p ∈ b <;> simp [h]
      rw [k2, k1]
    rw [e2, ih, dS_congr e3, e4, List.length_cons]
    omega
theorem pairs_total (v : Nat) : dS (List.range v) (fun p => dS (List.range v) fun q => if p = q then 0 else 1) = v * (v - 1) := by
  have h : ∀ p, p ∈ List.range v → dS (List.range v) (fun q => if p = q then 0 else 1) = v - 1 := fun p hp => by
    have hp := List.mem_range.1 hp
    have k3 := dS_one_in (v := v) (b := [p]) ⟨by simp, fun q hq => by
      have : q = p := by simpa using hq
      rw [this]; exact hp⟩
    have k2 : dS (List.range v) (fun q => if p = q then 0 else 1) + dS (List.range v) (fun q => if q ∈ [p] then 1 else 0) = dS (List.range v) fun _ => 1 := by
      rw [← dS_add]
      refine dS_congr fun q _ => ?_
      by_cases h : p = q
      · subst h; simp
      · have h2 : ¬ q = p := fun e => h e.symm
        simp [h, h2]
    rw [k3, dS_const] at k2
    simp at k2
    omega
  rw [dS_congr h, dS_const]
  simp
/-- Each two lie together, and the blocks are as few as can be: then they lie together once. -/
theorem sys_cover {v : Nat} {B : List (List Nat)} (h : Bls v B) (h3 : ∀ b ∈ B, b.length = 3) (hl : 6 * B.length = v * (v - 1)) (hc : ∀ p q, p < v → q < v → p ≠ q → 1 ≤ nb B [p, q]) : Sys v B := by
  have e1 := nb_total h h3
  rw [hl, ← pairs_total v] at e1
  refine ⟨h, h3, fun p q hp hq hn => ?_⟩
  have k1 := dS_eq_of_le (l := List.range v) (f := fun p => dS (List.range v) fun q => if p = q then 0 else nb B [p, q]) (g := fun p => dS (List.range v) fun q => if p = q then 0 else 1) (fun a ha => dS_le fun c hc' => by
    by_cases h : a = c
    · simp [h]
    · rw [if_neg h, if_neg h]; exact hc a c (List.mem_range.1 ha) (List.mem_range.1 hc') h) e1 p (List.mem_range.2 hp)
  have k2 := dS_eq_of_le (l := List.range v) (fun c hc' => by
    by_cases h : p = c
    · simp [h]
    · rw [if_neg h, if_neg h]; exact hc p c hp (List.mem_range.1 hc') h) k1 q (List.mem_range.2 hq)
  rw [if_neg hn, if_neg hn] at k2
  exact k2
/-- None lie together twice, and the blocks are as many as can be. -/
theorem sys_pack {v : Nat} {B : List (List Nat)} (h : Bls v B) (h3 : ∀ b ∈ B, b.length = 3) (hl : 6 * B.length = v * (v - 1)) (hc : ∀ p q, p < v → q < v → p ≠ q → nb B [p, q] ≤ 1) : Sys v B := by
  have e1 := nb_total h h3
  rw [hl, ← pairs_total v] at e1
  refine ⟨h, h3, fun p q hp hq hn => ?_⟩
  have k1 := dS_eq_of_le (l := List.range v) (g := fun p => dS (List.range v) fun q => if p = q then 0 else nb B [p, q]) (f := fun p => dS (List.range v) fun q => if p = q then 0 else 1) (fun a ha => dS_le fun c hc' => by
    by_cases h : a = c
    · simp [h]
    · rw [if_neg h, if_neg h]; exact hc a c (List.mem_range.1 ha) (List.mem_range.1 hc') h) e1.symm p (List.mem_range.2 hp)
  have k2 := dS_eq_of_le (l := List.range v) (fun c hc' => by
    by_cases h : p = c
    · simp [h]
    · rw [if_neg h, if_neg h]; exact hc p c hp (List.mem_range.1 hc') h) k1 q (List.mem_range.2 hq)
  rw [if_neg hn, if_neg hn] at k2
  exact k2.symm
/-- So many blocks there are. -/
theorem sys_len {v : Nat} {B : List (List Nat)} (h : Sys v B) : 6 * B.length = v * (v - 1) := by
  rw [← nb_total h.bl h.sz, ← pairs_total]
  exact dS_congr fun p hp => dS_congr fun q hq => by
    by_cases e : p = q
    · simp [e]
    · rw [if_neg e, if_neg e]; exact h.l2 p q (List.mem_range.1 hp) (List.mem_range.1 hq) e
/-- Asked by reckoning. -/
def okB (v : Nat) : List Nat → Bool
  | [x, y, z] => Nat.blt x v && Nat.blt y v && Nat.blt z v && !Nat.beq x y && !Nat.beq x z && !Nat.beq y z
  | _ => false
def inB (p : Nat) : List Nat → Bool
  | [] => false
  | x :: b => Nat.beq p x || inB p b
def anyB (p q : Nat) : List (List Nat) → Bool
  | [] => false
  | b :: B => (inB p b && inB q b) || anyB p q B
def allB (v : Nat) : List (List Nat) → Bool
  | [] => true
  | b :: B => okB v b && allB v B
def rowB (q : Nat) (B : List (List Nat)) : Nat → Bool
  | 0 => true
  | p + 1 => anyB p q B && rowB q B p
def covB (B : List (List Nat)) : Nat → Bool
  | 0 => true
  | q + 1 => rowB q B q && covB B q
def chkB (v : Nat) (B : List (List Nat)) : Bool := allB v B && Nat.beq (6 * B.length) (v * (v - 1)) && covB B v
theorem inB_mem {p : Nat} : ∀ {b : List Nat}, inB p b = true → p ∈ b
  | [], h => by cases h
  | x :: b, h => by
    unfold inB at h
    rw [Bool.or_eq_true] at h
    rcases h with h | h
    · rw [Nat.eq_of_beq_eq_true h]; simp
    · exact List.mem_cons_of_mem _ (inB_mem h)
theorem anyB_nb {p q : Nat} : ∀ {B : List (List Nat)}, anyB p q B = true → 1 ≤ nb B [p, q]
  | [], h => by cases h
  | b :: B, h => by
    unfold anyB at h
    rw [Bool.or_eq_true] at h
    unfold nb
    rw [List.countP_cons]
    rcases h with h | h
    · rw [Bool.and_eq_true] at h
      rw [if_pos (by simp [inB_mem h.1, inB_mem h.2])]; omega
    · have := anyB_nb h
      unfold nb at this
      omega
theorem allB_ok {v : Nat} : ∀ {B : List (List Nat)}, allB v B = true → Bls v B ∧ ∀ b ∈ B, b.length = 3
  | [], _ => ⟨fun b hb => by simp at hb, fun b hb => by simp at hb⟩
  | b :: B, h => by
    unfold allB at h
    rw [Bool.and_eq_true] at h
    obtain ⟨i1, i2⟩ := allB_ok h.2
    have hb : Pts v b ∧ b.length = 3 := by
      match b, h.1 with
      | [x, y, z], h =>
        unfold okB at h
        simp only [Bool.and_eq_true, Bool.not_eq_true', Nat.blt_eq] at h
        obtain ⟨⟨⟨⟨⟨h1, h2⟩, h3⟩, h4⟩, h5⟩, h6⟩ := h
        have g4 : x ≠ y := Nat.ne_of_beq_eq_false h4
        have g5 : x ≠ z := Nat.ne_of_beq_eq_false h5
        have g6 : y ≠ z := Nat.ne_of_beq_eq_false h6
        exact ⟨⟨by simp; exact ⟨⟨g4, g5⟩, g6⟩, fun t ht => by simp at ht; omega⟩, rfl⟩
    refine ⟨fun c hc => ?_, fun c hc => ?_⟩
    · rcases List.mem_cons.1 hc with rfl | hc
      · exact hb.1
      · exact i1 c hc
    · rcases List.mem_cons.1 hc with rfl | hc
      · exact hb.2
      · exact i2 c hc
theorem rowB_ok {q : Nat} {B : List (List Nat)} : ∀ {n : Nat}, rowB q B n = true → ∀ p, p < n → 1 ≤ nb B [p, q]
  | 0, _, p, hp => by omega
  | n + 1, h, p, hp => by
    unfold rowB at h
    rw [Bool.and_eq_true] at h
    by_cases e : p = n
    · rw [e]; exact anyB_nb h.1
    · exact rowB_ok h.2 p (by omega)
theorem covB_ok {B : List (List Nat)} : ∀ {n : Nat}, covB B n = true → ∀ p q, p < q → q < n → 1 ≤ nb B [p, q]
  | 0, _, p, q, _, hq => by omega
  | n + 1, h, p, q, hpq, hq => by
    unfold covB at h
    rw [Bool.and_eq_true] at h
    by_cases e : q = n
    · rw [e] at hpq ⊢; exact rowB_ok h.1 p hpq
    · exact covB_ok h.2 p q hpq (by omega)
theorem chk_sys {v : Nat} {B : List (List Nat)} (h : chkB v B = true) : Sys v B := by
  unfold chkB at h
  rw [Bool.and_eq_true, Bool.and_eq_true] at h
  obtain ⟨⟨h1, h2⟩, h3⟩ := h
  obtain ⟨a, b⟩ := allB_ok h1
  refine sys_cover a b (Nat.eq_of_beq_eq_true h2) fun p q hp hq hn => ?_
  rcases Nat.lt_or_gt_of_ne hn with e | e
  · exact covB_ok h3 p q e hq
  · rw [nb_swap]; exact covB_ok h3 q p e hp

end Go.Proofs.YtgpkhfpejopacabGreatDoor

namespace Go.Proofs.YtgpkhfpejopacabGreatDoor

/-- Blocks of three points that rise, no two of which have two points together. -/
structure Pk (v : Nat) (L : List (List Nat)) : Prop where
  rise : ∀ b ∈ L, ∃ x y z, b = [x, y, z] ∧ x < y ∧ y < z ∧ z < v
  one : ∀ p q, p < q → q < v → nb L [p, q] ≤ 1
def cv (L : List (List Nat)) (p q : Nat) : Bool := L.any fun b => b.contains p && b.contains q
theorem cv_iff {L : List (List Nat)} {p q : Nat} : cv L p q = true ↔ ∃ b ∈ L, p ∈ b ∧ q ∈ b := by
  unfold cv
  rw [List.any_eq_true]
  simp
theorem cv_nb {L : List (List Nat)} {p q : Nat} : cv L p q = true ↔ 1 ≤ nb L [p, q] := by
  rw [cv_iff]
  unfold nb
  rw [Nat.one_le_iff_ne_zero, ← Nat.pos_iff_ne_zero, List.countP_pos_iff]
  simp
theorem cv_swap (L : List (List Nat)) (p q : Nat) : cv L p q = cv L q p := by
  unfold cv
  congr 1
  funext b
  exact Bool.and_comm _ _
theorem cv_snoc (L : List (List Nat)) (b : List Nat) (p q : Nat) : cv (L ++ [b]) p q = (cv L p q || (b.contains p && b.contains q)) := by
  unfold cv
  rw [List.any_append]
  simp
theorem nb_snoc (L : List (List Nat)) (b s : List Nat) : nb (L ++ [b]) s = nb L s + if (s.all fun x => b.contains x) = true then 1 else 0 := by
  unfold nb
  rw [List.countP_append, List.countP_singleton]
theorem Pk.nil (v : Nat) : Pk v [] := ⟨fun b h => by simp at h, fun p q _ _ => by unfold nb; simp⟩
theorem Pk.snoc {v x y z : Nat} {L : List (List Nat)} (h : Pk v L) (h1 : x < y) (h2 : y < z) (h3 : z < v) (a : cv L x y = false) (b : cv L x z = false) (c : cv L y z = false) : Pk v (L ++ [[x, y, z]]) := by
  refine ⟨fun d hd => ?_, fun p q hpq hq => ?_⟩
  · rcases List.mem_append.1 hd with hd | hd
    · exact h.rise d hd
    · rw [List.mem_singleton] at hd
      exact ⟨x, y, z, hd, h1, h2, h3⟩
  · rw [nb_snoc]
    have h0 := h.one p q hpq hq
    by_cases e : ([p, q].all fun t => [x, y, z].contains t) = true
    · rw [if_pos e]
      have e2 : (p = x ∨ p = y ∨ p = z) ∧ (q = x ∨ q = y ∨ q = z) := by simpa using e
      have e3 : cv L p q = false := by
        rcases e2 with ⟨rfl | rfl | rfl, rfl | rfl | rfl⟩ <;> first | assumption | omega
      have : ¬ 1 ≤ nb L [p, q] := fun g => by rw [cv_nb.2 g] at e3; cases e3
      omega
    · rw [if_neg e]; omega
theorem Pk.bls {v : Nat} {L : List (List Nat)} (h : Pk v L) : Bls v L := fun b hb => by
  obtain ⟨x, y, z, rfl, h1, h2, h3⟩ := h.rise b hb
  refine ⟨?_, fun t ht => ?_⟩
  · simp; omega
  · simp at ht; omega
theorem Pk.three {v : Nat} {L : List (List Nat)} (h : Pk v L) : ∀ b ∈ L, b.length = 3 := fun b hb => by
  obtain ⟨x, y, z, rfl, _⟩ := h.rise b hb
  rfl
theorem Pk.le {v : Nat} {L : List (List Nat)} (h : Pk v L) : 6 * L.length ≤ v * (v - 1) := by
  rw [← nb_total h.bls h.three, ← pairs_total v]
  refine dS_le fun p hp => dS_le fun q hq => ?_
  by_cases e : p = q
  · rw [if_pos e, if_pos e]; exact Nat.le_refl _
  · rw [if_neg e, if_neg e]
    rcases Nat.lt_or_gt_of_ne e with g | g
    · exact h.one p q g (List.mem_range.1 hq)
    · rw [show nb L [p, q] = nb L [q, p] by unfold nb; congr 1; funext b; simp [Bool.and_comm]]
      exact h.one q p g (List.mem_range.1 hp)
def Full (v : Nat) (L : List (List Nat)) : Prop := ∀ p q, p < q → q < v → cv L p q = true
theorem nb_sw (L : List (List Nat)) (p q : Nat) : nb L [p, q] = nb L [q, p] := by unfold nb; congr 1; funext b; simp [Bool.and_comm]
theorem Pk.full {v : Nat} {L : List (List Nat)} (h : Pk v L) : Full v L ↔ 6 * L.length = v * (v - 1) := by
  constructor
  · intro hf
    have h1 := h.le
    have h2 : v * (v - 1) ≤ 6 * L.length := by
      rw [← nb_total h.bls h.three, ← pairs_total v]
      refine dS_le fun p hp => dS_le fun q hq => ?_
      by_cases e : p = q
      · rw [if_pos e, if_pos e]; exact Nat.le_refl _
      · rw [if_neg e, if_neg e]
        rcases Nat.lt_or_gt_of_ne e with g | g
        · exact cv_nb.1 (hf p q g (List.mem_range.1 hq))
        · rw [nb_sw]; exact cv_nb.1 (hf q p g (List.mem_range.1 hp))
    omega
  · intro hl p q hpq hq
    have s := sys_pack h.bls h.three hl fun p q hp hq hn => by
      rcases Nat.lt_or_gt_of_ne hn with g | g
      · exact h.one p q g hq
      · rw [nb_sw]; exact h.one q p g hp
    exact cv_nb.2 (by rw [s.l2 p q (by omega) hq (by omega)]; exact Nat.le_refl _)
theorem Pk.sys {v : Nat} {L : List (List Nat)} (h : Pk v L) (hf : Full v L) : Sys v L := sys_pack h.bls h.three (h.full.1 hf) fun p q hp hq hn => by
  rcases Nat.lt_or_gt_of_ne hn with g | g
  · exact h.one p q g hq
  · rw [nb_sw]; exact h.one q p g hp
theorem nine_le {v : Nat} (h : v ≤ 9) : v * (v - 1) ≤ 72 := Nat.le_trans (Nat.mul_le_mul h (by omega : v - 1 ≤ 8)) (by omega)
theorem Pk.few {v : Nat} {L : List (List Nat)} (h : Pk v L) (hv : v ≤ 9) : L.length ≤ 12 := by have := h.le; have := nine_le hv; omega
/-- All points before these two lie together. -/
def Bef (v : Nat) (L : List (List Nat)) (x y : Nat) : Prop := ∀ p q, p < q → q < v → (p < x ∨ (p = x ∧ q < y)) → cv L p q = true
structure FA (v : Nat) (L : List (List Nat)) (x y : Nat) : Prop where
  lt : x < y
  lv : y < v
  ap : cv L x y = false
  bef : Bef v L x y
theorem FA.one {v : Nat} {L : List (List Nat)} {x y x' y' : Nat} (h : FA v L x y) (h' : FA v L x' y') : x = x' ∧ y = y' := by
  have key : ∀ {x y x' y'}, FA v L x y → FA v L x' y' → ¬ (x < x' ∨ (x = x' ∧ y < y')) := fun h h' g => by
    have := h'.bef _ _ h.lt h.lv g
    rw [h.ap] at this
    cases this
  have k1 := key h h'
  have k2 := key h' h
  omega
theorem FA.nfull {v : Nat} {L : List (List Nat)} {x y : Nat} (h : FA v L x y) : ¬ Full v L := fun g => by
  have := g x y h.lt h.lv
  rw [h.ap] at this
  cases this
/-- The first that is told, of so many from one on. -/
def fz {α : Type} (f : Nat → Option α) : Nat → Nat → Option α
  | 0, _ => none
  | n + 1, z => match f z with
    | some r => some r
    | none => fz f n (z + 1)
theorem fz_some {α : Type} {f : Nat → Option α} {v z : Nat} {r : α} (h : z < v) (e : f z = some r) : fz f (v - z) z = some r := by
  obtain ⟨n, hn⟩ : ∃ n, v - z = n + 1 := ⟨v - z - 1, by omega⟩
  rw [hn, fz, e]
theorem fz_none {α : Type} {f : Nat → Option α} {v z : Nat} (h : z < v) (e : f z = none) : fz f (v - z) z = fz f (v - (z + 1)) (z + 1) := by
  obtain ⟨n, hn⟩ : ∃ n, v - z = n + 1 := ⟨v - z - 1, by omega⟩
  rw [hn, fz, e, show v - (z + 1) = n by omega]
theorem fz_end {α : Type} {f : Nat → Option α} {v z : Nat} (h : v ≤ z) : fz f (v - z) z = none := by rw [show v - z = 0 by omega]; rfl
open Classical in
noncomputable def gr (v : Nat) : Nat → List (List Nat) → Option (List (List Nat))
  | 0, L => if Full v L then some L else none
  | k + 1, L => if Full v L then some L else
    if h : ∃ p : Nat × Nat, FA v L p.1 p.2 then
      fz (fun z => if (cv L h.choose.1 z || cv L h.choose.2 z) = true then none else gr v k (L ++ [[h.choose.1, h.choose.2, z]])) (v - (h.choose.2 + 1)) (h.choose.2 + 1)
    else none
theorem gr_full {v k : Nat} {L : List (List Nat)} (h : Full v L) : gr v k L = some L := by
  cases k <;> (unfold gr; rw [if_pos h])
/-- What is tried with a third point. -/
noncomputable def gz (v k : Nat) (L : List (List Nat)) (x y z : Nat) : Option (List (List Nat)) := if (cv L x z || cv L y z) = true then none else gr v k (L ++ [[x, y, z]])
theorem gr_fa {v k x y : Nat} {L : List (List Nat)} (h : FA v L x y) : gr v (k + 1) L = fz (gz v k L x y) (v - (y + 1)) (y + 1) := by
  rw [gr, if_neg h.nfull]
  have hx : ∃ p : Nat × Nat, FA v L p.1 p.2 := ⟨(x, y), h⟩
  rw [dif_pos hx]
  obtain ⟨e1, e2⟩ := h.one hx.choose_spec
  rw [← e1, ← e2]
  rfl
/-- What it tells is a system that has these blocks ahead. -/
theorem gr_sys {v : Nat} : ∀ {k : Nat} {L R : List (List Nat)}, Pk v L → gr v k L = some R → Pk v R ∧ Full v R ∧ ∃ M, R = L ++ M
  | 0, L, R, hp, h => by
    unfold gr at h
    by_cases hf : Full v L
    · rw [if_pos hf] at h
      cases h
      exact ⟨hp, hf, [], (List.append_nil _).symm⟩
    · rw [if_neg hf] at h; cases h
  | k + 1, L, R, hp, h => by
    by_cases hf : Full v L
    · rw [gr_full hf] at h
      cases h
      exact ⟨hp, hf, [], (List.append_nil _).symm⟩
    · by_cases hx : ∃ p : Nat × Nat, FA v L p.1 p.2
      · obtain ⟨⟨x, y⟩, hx⟩ := hx
        rw [gr_fa hx] at h
        have key : ∀ n z, y < z → z + n = v → fz (gz v k L x y) n z = some R → Pk v R ∧ Full v R ∧ ∃ M, R = L ++ M := by
          intro n
          induction n with
          | zero => intro z _ _ h; cases h
          | succ n ih =>
            intro z hz hn h
            rw [fz] at h
            cases e : gz v k L x y z with
            | none => rw [e] at h; exact ih (z + 1) (by omega) (by omega) h
            | some r =>
              rw [e] at h
              cases h
              unfold gz at e
              by_cases g : (cv L x z || cv L y z) = true
              · rw [if_pos g] at e; cases e
              · rw [if_neg g] at e
                rw [Bool.not_eq_true, Bool.or_eq_false_iff] at g
                obtain ⟨a, b, M, rfl⟩ := gr_sys (hp.snoc hx.lt hz (by omega) hx.ap g.1 g.2) e
                exact ⟨a, b, [x, y, z] :: M, by rw [List.append_assoc]; rfl⟩
        have hlv : y < v := hx.lv
        exact key (v - (y + 1)) (y + 1) (by omega) (by omega) h
      · rw [gr, if_neg hf, dif_neg hx] at h
        cases h
/-- The marks of two points, in nine rows of nine. -/
def tc (L : List (List Nat)) (i : Nat) : Bool := decide (i / 9 < i % 9) && cv L (i / 9) (i % 9)
theorem tc_at {L : List (List Nat)} {x y : Nat} (h : x < y) (hy : y < 9) : tc L (9 * x + y) = cv L x y := by
  have h1 : (9 * x + y) / 9 = x := by omega
  have h2 : (9 * x + y) % 9 = y := by omega
  unfold tc
  rw [h1, h2, decide_eq_true h]
  rfl
def up3 (T : Nat → Bool) (a b c : Nat) (t : Bool) : Nat → Bool := fun i => if i = a ∨ i = b ∨ i = c then t else T i
theorem tc_snoc {L : List (List Nat)} {x y z : Nat} (h1 : x < y) (h2 : y < z) (h3 : z < 9) (i : Nat) : tc (L ++ [[x, y, z]]) i = up3 (tc L) (9 * x + y) (9 * x + z) (9 * y + z) true i := by
  unfold up3
  by_cases e : i = 9 * x + y ∨ i = 9 * x + z ∨ i = 9 * y + z
  · rw [if_pos e]
    have k : i / 9 < i % 9 ∧ (i / 9 = x ∨ i / 9 = y) ∧ (i % 9 = y ∨ i % 9 = z) := by omega
    obtain ⟨k1, k2, k3⟩ := k
    unfold tc
    rw [cv_snoc, decide_eq_true k1]
    have : ([x, y, z].contains (i / 9) && [x, y, z].contains (i % 9)) = true := by
      rcases k2 with e | e <;> rcases k3 with e' | e' <;> (rw [e, e']; simp)
    rw [this]; simp
  · rw [if_neg e]
    unfold tc
    rw [cv_snoc]
    by_cases k1 : i / 9 < i % 9
    · have : ([x, y, z].contains (i / 9) && [x, y, z].contains (i % 9)) = false := by
        rw [Bool.eq_false_iff]
        intro h
        have h : (i / 9 = x ∨ i / 9 = y ∨ i / 9 = z) ∧ (i % 9 = x ∨ i % 9 = y ∨ i % 9 = z) := by simpa using h
        have hi := Nat.div_add_mod i 9
        omega
      rw [this, Bool.or_false]
    · rw [decide_eq_false k1]; rfl
theorem tc_back {L : List (List Nat)} {x y z : Nat} (h1 : x < y) (h2 : y < z) (h3 : z < 9) (a : cv L x y = false) (b : cv L x z = false) (c : cv L y z = false) (i : Nat) : tc L i = up3 (tc (L ++ [[x, y, z]])) (9 * x + y) (9 * x + z) (9 * y + z) false i := by
  unfold up3
  by_cases e : i = 9 * x + y ∨ i = 9 * x + z ∨ i = 9 * y + z
  · rw [if_pos e]
    rcases e with rfl | rfl | rfl
    · rw [tc_at h1 (by omega), a]
    · rw [tc_at (by omega) h3, b]
    · rw [tc_at h2 h3, c]
  · rw [if_neg e, tc_snoc h1 h2 h3]
    unfold up3
    rw [if_neg e]
theorem s3_rise {x y z : Nat} (h1 : x < y) (h2 : y < z) : s3 [x, y, z] = [x, y, z] := sorted_one (s3_perm _) (s3_le _) (by simp; omega)

end Go.Proofs.YtgpkhfpejopacabGreatDoor
