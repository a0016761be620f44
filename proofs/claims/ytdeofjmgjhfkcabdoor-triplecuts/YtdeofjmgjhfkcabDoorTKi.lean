/- Systems that are made are systems: reckoned; nothing of the program. -/
import Derived.Test.YtdeofjmgjhfkcabDoorTDou
import Derived.Test.YtdeofjmgjhfkcabDoorTPas
namespace Go.Proofs.YtdeofjmgjhfkcabDoor

theorem dS_eq_of_le {α : Type} {f g : α → Nat} : ∀ {l : List α}, (∀ a ∈ l, g a ≤ f a) → dS l f = dS l g → ∀ a ∈ l, f a = g a
  | [], _, _, a, ha => by simp at ha
  | b :: l, h, e, a, ha => by
    rw [dS_cons, dS_cons] at e
    have h1 := h b (by simp)
    have h2 : dS l g ≤ dS l f := by
      clear e ha
      have h3 : ∀ a ∈ l, g a ≤ f a := fun a ha => h a (by simp [ha])
      clear h h1
      induction l with
      | nil => exact Nat.le_refl _
      | cons c l ih => rw [dS_cons, dS_cons]; exact Nat.add_le_add (h3 c (by simp)) (ih fun a ha => h3 a (by simp [ha]))
    rcases List.mem_cons.1 ha with rfl | ha
    · omega
    · exact dS_eq_of_le (fun a ha => h a (by simp [ha])) (by omega) a ha
theorem dS_le {α : Type} {f g : α → Nat} : ∀ {l : List α}, (∀ a ∈ l, g a ≤ f a) → dS l g ≤ dS l f
  | [], _ => Nat.le_refl _
  | c :: l, h => by rw [dS_cons, dS_cons]; exact Nat.add_le_add (h c (by simp)) (dS_le fun a ha => h a (by simp [ha]))
theorem dS_one_in {v : Nat} {b : List Nat} (h : Pts v b) : dS (List.range v) (fun p => if p ∈ b then 1 else 0) = b.length := by
  have e := countP_pts h (fun _ => true)
  have e2 : b.countP (fun _ => true) = b.length := by simp
  rw [e2] at e
  rw [← e, ← dS_count]
  exact dS_congr fun p _ => by simp
/-- How often two points lie together, told over all pairs. -/
theorem nb_total {v : Nat} : ∀ {B : List (List Nat)}, Bls v B → (∀ b ∈ B, b.length = 3) → dS (List.range v) (fun p => dS (List.range v) fun q => if p = q then 0 else nb B [p, q]) = 6 * B.length
  | [], _, _ => by
    have : ∀ p ∈ List.range v, dS (List.range v) (fun q => if p = q then 0 else nb [] [p, q]) = 0 := fun p _ => by
      rw [dS_congr (g := fun _ => 0) fun q _ => by by_cases h : p = q <;> simp [h, nb], dS_const]; omega
    rw [dS_congr this, dS_const]; simp
  | b :: B, h, h3 => by
    have ih := nb_total (B := B) (fun c hc => h c (by simp [hc])) fun c hc => h3 c (by simp [hc])
    have hb := h b (by simp)
    obtain ⟨x, y, z, e, hx, hy, hz, n1, n2, n3⟩ := three_of hb (h3 b (by simp))
    have e1 : ∀ p q, (if p = q then 0 else nb (b :: B) [p, q]) = (if p = q then 0 else nb B [p, q]) + (if p ≠ q ∧ p ∈ b ∧ q ∈ b then 1 else 0) := fun p q => by
      by_cases h1 : p = q
      · simp [h1]
      · rw [if_neg h1, if_neg h1]
        unfold nb
        rw [List.countP_cons]
        simp [h1]
    have e2 : dS (List.range v) (fun p => dS (List.range v) fun q => if p = q then 0 else nb (b :: B) [p, q]) = dS (List.range v) (fun p => dS (List.range v) fun q => if p = q then 0 else nb B [p, q]) + dS (List.range v) (fun p => dS (List.range v) fun q => if p ≠ q ∧ p ∈ b ∧ q ∈ b then 1 else 0) := by
      rw [← dS_add]
      refine dS_congr fun p _ => ?_
      rw [← dS_add]
      exact dS_congr fun q _ => e1 p q
    have e3 : ∀ p, p ∈ List.range v → dS (List.range v) (fun q => if p ≠ q ∧ p ∈ b ∧ q ∈ b then 1 else 0) = if p ∈ b then 2 else 0 := fun p _ => by
      by_cases hp : p ∈ b
      · rw [if_pos hp]
        have k1 := dS_one_in hb
        have k2 : dS (List.range v) (fun q => if q ∈ b then 1 else 0) = dS (List.range v) (fun q => if p ≠ q ∧ p ∈ b ∧ q ∈ b then 1 else 0) + dS (List.range v) (fun q => if q ∈ [p] then 1 else 0) := by
          rw [← dS_add]
          refine dS_congr fun q _ => ?_
          by_cases h1 : q = p
          · subst h1; simp [hp]
          · have h2 : p ≠ q := fun e => h1 e.symm
            simp [h1, h2, hp]
        have k3 := dS_one_in (v := v) (b := [p]) ⟨by simp, fun q hq => by
          have : q = p := by simpa using hq
          rw [this]; exact hb.lt p hp⟩
        rw [k3, k1, h3 b (by simp)] at k2
        simp at k2
        omega
      · rw [if_neg hp, dS_congr (g := fun _ => 0) fun q _ => if_neg fun h => hp h.2.1, dS_const]; omega
    have e4 : dS (List.range v) (fun p => if p ∈ b then 2 else 0) = 6 := by
      have k1 := dS_one_in hb
      rw [h3 b (by simp)] at k1
      have k2 : dS (List.range v) (fun p => if p ∈ b then 2 else 0) = 2 * dS (List.range v) (fun p => if p ∈ b then 1 else 0) := by
        rw [← dS_mul]
        exact dS_congr fun p _ => by by_cases h : p ∈ b <;> simp [h]
      rw [k2, k1]
    rw [e2, ih, dS_congr e3, e4, List.length_cons]
    omega
theorem pairs_total (v : Nat) : dS (List.range v) (fun p => dS (List.range v) fun q => if p = q then 0 else 1) = v * (v - 1) := by
  have h : ∀ p, p ∈ List.range v → dS (List.range v) (fun q => if p = q then 0 else 1) = v - 1 := fun p hp => by
    have hp := List.mem_range.1 hp
    have k3 := dS_one_in (v := v) (b := [p]) ⟨by simp, fun q hq => by
      have : q = p := by simpa using hq
      rw [this]; exact hp⟩
    have k2 : dS (List.range v) (fun q => if p = q then 0 else 1) + dS (List.range v) (fun q => if q ∈ [p] then 1 else 0) = dS (List.range v) fun _ => 1 := by
      rw [← dS_add]
      refine dS_congr fun q _ => ?_
      by_cases h : p = q
      · subst h; simp
      · have h2 : ¬ q = p := fun e => h e.symm
        simp [h, h2]
    rw [k3, dS_const] at k2
    simp at k2
    omega
  rw [dS_congr h, dS_const]
  simp
/-- Each two lie together, and the blocks are as few as can be: then they lie together once. -/
theorem sys_cover {v : Nat} {B : List (List Nat)} (h : Bls v B) (h3 : ∀ b ∈ B, b.length = 3) (hl : 6 * B.length = v * (v - 1)) (hc : ∀ p q, p < v → q < v → p ≠ q → 1 ≤ nb B [p, q]) : Sys v B := by
  have e1 := nb_total h h3
  rw [hl, ← pairs_total v] at e1
  refine ⟨h, h3, fun p q hp hq hn => ?_⟩
  have k1 := dS_eq_of_le (l := List.range v) (f := fun p => dS (List.range v) fun q => if p = q then 0 else nb B [p, q]) (g := fun p => dS (List.range v) fun q => if p = q then 0 else 1) (fun a ha => dS_le fun c hc' => by
    by_cases h : a = c
    · simp [h]
    · rw [if_neg h, if_neg h]; exact hc a c (List.mem_range.1 ha) (List.mem_range.1 hc') h) e1 p (List.mem_range.2 hp)
  have k2 := dS_eq_of_le (l := List.range v) (fun c hc' => by
    by_cases h : p = c
    · simp [h]
    · rw [if_neg h, if_neg h]; exact hc p c hp (List.mem_range.1 hc') h) k1 q (List.mem_range.2 hq)
  rw [if_neg hn, if_neg hn] at k2
  exact k2
/-- None lie together twice, and the blocks are as many as can be. -/
theorem sys_pack {v : Nat} {B : List (List Nat)} (h : Bls v B) (h3 : ∀ b ∈ B, b.length = 3) (hl : 6 * B.length = v * (v - 1)) (hc : ∀ p q, p < v → q < v → p ≠ q → nb B [p, q] ≤ 1) : Sys v B := by
  have e1 := nb_total h h3
  rw [hl, ← pairs_total v] at e1
  refine ⟨h, h3, fun p q hp hq hn => ?_⟩
  have k1 := dS_eq_of_le (l := List.range v) (g := fun p => dS (List.range v) fun q => if p = q then 0 else nb B [p, q]) (f := fun p => dS (List.range v) fun q => if p = q then 0 else 1) (fun a ha => dS_le fun c hc' => by
    by_cases h : a = c
    · simp [h]
    · rw [if_neg h, if_neg h]; exact hc a c (List.mem_range.1 ha) (List.mem_range.1 hc') h) e1.symm p (List.mem_range.2 hp)
  have k2 := dS_eq_of_le (l := List.range v) (fun c hc' => by
    by_cases h : p = c
    · simp [h]
    · rw [if_neg h, if_neg h]; exact hc p c hp (List.mem_range.1 hc') h) k1 q (List.mem_range.2 hq)
  rw [if_neg hn, if_neg hn] at k2
  exact k2.symm
/-- So many blocks there are. -/
theorem sys_len {v : Nat} {B : List (List Nat)} (h : Sys v B) : 6 * B.length = v * (v - 1) := by
  rw [← nb_total h.bl h.sz, ← pairs_total]
  exact dS_congr fun p hp => dS_congr fun q hq => by
    by_cases e : p = q
    · simp [e]
    · rw [if_neg e, if_neg e]; exact h.l2 p q (List.mem_range.1 hp) (List.mem_range.1 hq) e
/-- Asked by reckoning. -/
def okB (v : Nat) : List Nat → Bool
  | [x, y, z] => Nat.blt x v && Nat.blt y v && Nat.blt z v && !Nat.beq x y && !Nat.beq x z && !Nat.beq y z
  | _ => false
def inB (p : Nat) : List Nat → Bool
  | [] => false
  | x :: b => Nat.beq p x || inB p b
def anyB (p q : Nat) : List (List Nat) → Bool
  | [] => false
  | b :: B => (inB p b && inB q b) || anyB p q B
def allB (v : Nat) : List (List Nat) → Bool
  | [] => true
  | b :: B => okB v b && allB v B
def rowB (q : Nat) (B : List (List Nat)) : Nat → Bool
  | 0 => true
  | p + 1 => anyB p q B && rowB q B p
def covB (B : List (List Nat)) : Nat → Bool
  | 0 => true
  | q + 1 => rowB q B q && covB B q
def chkB (v : Nat) (B : List (List Nat)) : Bool := allB v B && Nat.beq (6 * B.length) (v * (v - 1)) && covB B v
theorem inB_mem {p : Nat} : ∀ {b : List Nat}, inB p b = true → p ∈ b
  | [], h => by cases h
  | x :: b, h => by
    unfold inB at h
    rw [Bool.or_eq_true] at h
    rcases h with h | h
    · rw [Nat.eq_of_beq_eq_true h]; simp
    · exact List.mem_cons_of_mem _ (inB_mem h)
theorem anyB_nb {p q : Nat} : ∀ {B : List (List Nat)}, anyB p q B = true → 1 ≤ nb B [p, q]
  | [], h => by cases h
  | b :: B, h => by
    unfold anyB at h
    rw [Bool.or_eq_true] at h
    unfold nb
    rw [List.countP_cons]
    rcases h with h | h
    · rw [Bool.and_eq_true] at h
      rw [if_pos (by simp [inB_mem h.1, inB_mem h.2])]; omega
    · have := anyB_nb h
      unfold nb at this
      omega
theorem allB_ok {v : Nat} : ∀ {B : List (List Nat)}, allB v B = true → Bls v B ∧ ∀ b ∈ B, b.length = 3
  | [], _ => ⟨fun b hb => by simp at hb, fun b hb => by simp at hb⟩
  | b :: B, h => by
    unfold allB at h
    rw [Bool.and_eq_true] at h
    obtain ⟨i1, i2⟩ := allB_ok h.2
    have hb : Pts v b ∧ b.length = 3 := by
      match b, h.1 with
      | [x, y, z], h =>
        unfold okB at h
        simp only [Bool.and_eq_true, Bool.not_eq_true', Nat.blt_eq] at h
        obtain ⟨⟨⟨⟨⟨h1, h2⟩, h3⟩, h4⟩, h5⟩, h6⟩ := h
        have g4 : x ≠ y := Nat.ne_of_beq_eq_false h4
        have g5 : x ≠ z := Nat.ne_of_beq_eq_false h5
        have g6 : y ≠ z := Nat.ne_of_beq_eq_false h6
        exact ⟨⟨by simp; exact ⟨⟨g4, g5⟩, g6⟩, fun t ht => by simp at ht; omega⟩, rfl⟩
    refine ⟨fun c hc => ?_, fun c hc => ?_⟩
    · rcases List.mem_cons.1 hc with rfl | hc
      · exact hb.1
      · exact i1 c hc
    · rcases List.mem_cons.1 hc with rfl | hc
      · exact hb.2
      · exact i2 c hc
theorem rowB_ok {q : Nat} {B : List (List Nat)} : ∀ {n : Nat}, rowB q B n = true → ∀ p, p < n → 1 ≤ nb B [p, q]
  | 0, _, p, hp => by omega
  | n + 1, h, p, hp => by
    unfold rowB at h
    rw [Bool.and_eq_true] at h
    by_cases e : p = n
    · rw [e]; exact anyB_nb h.1
    · exact rowB_ok h.2 p (by omega)
theorem covB_ok {B : List (List Nat)} : ∀ {n : Nat}, covB B n = true → ∀ p q, p < q → q < n → 1 ≤ nb B [p, q]
  | 0, _, p, q, _, hq => by omega
  | n + 1, h, p, q, hpq, hq => by
    unfold covB at h
    rw [Bool.and_eq_true] at h
    by_cases e : q = n
    · rw [e] at hpq ⊢; exact rowB_ok h.1 p hpq
    · exact covB_ok h.2 p q hpq (by omega)
theorem chk_sys {v : Nat} {B : List (List Nat)} (h : chkB v B = true) : Sys v B := by
  unfold chkB at h
  rw [Bool.and_eq_true, Bool.and_eq_true] at h
  obtain ⟨⟨h1, h2⟩, h3⟩ := h
  obtain ⟨a, b⟩ := allB_ok h1
  refine sys_cover a b (Nat.eq_of_beq_eq_true h2) fun p q hp hq hn => ?_
  rcases Nat.lt_or_gt_of_ne hn with e | e
  · exact covB_ok h3 p q e hq
  · rw [nb_swap]; exact covB_ok h3 q p e hp

end Go.Proofs.YtdeofjmgjhfkcabDoor
