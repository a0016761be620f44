/- Sets of points as the bits of a number: nothing of the program. -/
import Derived.Test.YtjfjdidibglhaabDoorDPure
namespace Go.Proofs.YtjfjdidibglhaabDoor

theorem rise_ext : ∀ {a b : List Nat}, a.Pairwise (· < ·) → b.Pairwise (· < ·) → (∀ x, x ∈ a ↔ x ∈ b) → a = b
  | [], [], _, _, _ => rfl
  | [], y :: b, _, _, h => by have := (h y).2 List.mem_cons_self; simp at this
  | x :: a, [], _, _, h => by have := (h x).1 List.mem_cons_self; simp at this
  | x :: a, y :: b, ha, hb, h => by
    have ha' := List.pairwise_cons.1 ha
    have hb' := List.pairwise_cons.1 hb
    have e : x = y := by
      rcases List.mem_cons.1 ((h x).1 List.mem_cons_self) with e | hx
      · exact e
      · rcases List.mem_cons.1 ((h y).2 List.mem_cons_self) with e | hy
        · exact e.symm
        · have h1 := ha'.1 y hy
          have h2 := hb'.1 x hx
          omega
    subst e
    congr 1
    refine rise_ext ha'.2 hb'.2 fun z => ⟨fun hz => ?_, fun hz => ?_⟩
    · have h1 := ha'.1 z hz
      rcases List.mem_cons.1 ((h z).1 (List.mem_cons_of_mem _ hz)) with e | h2
      · omega
      · exact h2
    · have h1 := hb'.1 z hz
      rcases List.mem_cons.1 ((h z).2 (List.mem_cons_of_mem _ hz)) with e | h2
      · omega
      · exact h2

/-- The points of a number. -/
def pts (x : Nat) : List Nat := (List.range 64).filter fun i => x.testBit i
def pc (x : Nat) : Nat := (pts x).length
theorem pts_mem {x i : Nat} : i ∈ pts x ↔ i < 64 ∧ x.testBit i = true := by
  unfold pts; rw [List.mem_filter, List.mem_range]
theorem pts_rise (x : Nat) : (pts x).Pairwise (· < ·) := List.Pairwise.filter _ List.pairwise_lt_range
theorem testBit_high {x n i : Nat} (h : x < 2 ^ n) (hi : n ≤ i) : x.testBit i = false := Nat.testBit_lt_two_pow (Nat.lt_of_lt_of_le h (Nat.pow_le_pow_right (by decide) hi))
theorem pts_mem' {x i : Nat} (h : x < 2 ^ 64) : i ∈ pts x ↔ x.testBit i = true := by
  rw [pts_mem]
  refine ⟨fun h => h.2, fun h1 => ⟨?_, h1⟩⟩
  rcases Nat.lt_or_ge i 64 with h2 | h2
  · exact h2
  · rw [testBit_high h h2] at h1; cases h1
theorem pts_ext {x : Nat} {l : List Nat} (hl : l.Pairwise (· < ·)) (h : x < 2 ^ 64) (hm : ∀ i, x.testBit i = true ↔ i ∈ l) : pts x = l :=
  rise_ext (pts_rise x) hl fun i => (pts_mem' h).trans (hm i)
theorem pts_zero : pts 0 = [] := by
  refine List.eq_nil_iff_forall_not_mem.2 fun i hi => ?_
  have := (pts_mem.1 hi).2
  simp at this

/-- The number of a list. -/
def sb : List Nat → Nat
  | [] => 0
  | p :: l => 2 ^ p ||| sb l
theorem sb_bit : ∀ (l : List Nat) (i : Nat), (sb l).testBit i = l.contains i
  | [], i => by simp [sb]
  | p :: l, i => by
    unfold sb
    rw [Nat.testBit_or, sb_bit l i, Nat.testBit_two_pow, List.contains_cons]
    congr 1
    rw [Bool.eq_iff_iff, decide_eq_true_eq, beq_iff_eq]
    exact eq_comm
theorem sb_lt {l : List Nat} {n : Nat} (h : ∀ x ∈ l, x < n) : sb l < 2 ^ n := by
  refine Nat.lt_pow_two_of_testBit _ fun i hi => ?_
  rw [sb_bit]
  cases e : l.contains i with
  | false => rfl
  | true => have := h i (List.contains_iff_mem.1 e); omega
theorem sb_snoc (l : List Nat) (p : Nat) : sb (l ++ [p]) = sb l ||| 2 ^ p := by
  refine Nat.eq_of_testBit_eq fun i => ?_
  rw [Nat.testBit_or, sb_bit, sb_bit, Nat.testBit_two_pow, Bool.eq_iff_iff, Bool.or_eq_true, decide_eq_true_eq, List.contains_iff_mem, List.contains_iff_mem, List.mem_append, List.mem_singleton]
  exact or_congr_right eq_comm
theorem pts_sb {l : List Nat} (h : l.Pairwise (· < ·)) (hl : ∀ x ∈ l, x < 64) : pts (sb l) = l :=
  pts_ext h (sb_lt hl) fun i => by rw [sb_bit]; exact List.contains_iff_mem
theorem pc_sb {l : List Nat} (h : l.Pairwise (· < ·)) (hl : ∀ x ∈ l, x < 64) : pc (sb l) = l.length := by unfold pc; rw [pts_sb h hl]
/-- What is in one and not in the other. -/
def an (x y : Nat) : Nat := x &&& (18446744073709551615 - y)
theorem an_bit {x y i : Nat} (hx : x < 2 ^ 64) (hy : y < 2 ^ 64) : (an x y).testBit i = (x.testBit i && !y.testBit i) := by
  unfold an
  rw [Nat.testBit_and]
  have e : 18446744073709551615 - y = 2 ^ 64 - (y + 1) := by omega
  rw [e, Nat.testBit_two_pow_sub_succ hy]
  rcases Nat.lt_or_ge i 64 with h | h
  · simp [h]
  · rw [testBit_high hx h]; rfl
theorem an_zero {x y : Nat} (hx : x < 2 ^ 64) (hy : y < 2 ^ 64) : an x y = 0 ↔ ∀ i, x.testBit i = true → y.testBit i = true := by
  constructor
  · intro h i hi
    have := an_bit (i := i) hx hy
    rw [h, Nat.zero_testBit, hi, Bool.true_and] at this
    cases e : y.testBit i with
    | true => rfl
    | false => rw [e] at this; cases this
  · intro h
    refine Nat.eq_of_testBit_eq fun i => ?_
    rw [an_bit hx hy, Nat.zero_testBit]
    cases e : x.testBit i with
    | false => rfl
    | true => rw [h i e]; rfl
theorem an_all {s b : List Nat} (hs : ∀ x ∈ s, x < 64) (hb : ∀ x ∈ b, x < 64) : (an (sb s) (sb b) = 0) ↔ (s.all fun x => b.contains x) = true := by
  rw [an_zero (sb_lt hs) (sb_lt hb), List.all_eq_true]
  refine forall_congr' fun i => ?_
  rw [sb_bit, sb_bit, List.contains_iff_mem]

/-- The first points. -/
theorem low_bit (n i : Nat) : (2 ^ n - 1).testBit i = decide (i < n) := Nat.testBit_two_pow_sub_one n i
theorem low_sb (n : Nat) : 2 ^ n - 1 = sb (List.range n) := by
  refine Nat.eq_of_testBit_eq fun i => ?_
  rw [low_bit, sb_bit, Bool.eq_iff_iff]
  simp
theorem pow_lt64 {n m : Nat} (h : n < m) : 2 ^ n < 2 ^ m := Nat.pow_lt_pow_right (by decide) h

/-- The least point, and the number without it. -/
theorem low_off {x k m : Nat} (e : x = 2 ^ k * (2 * m + 1)) (i : Nat) : (x.testBit i = true → k ≤ i) ∧ x.testBit k = true ∧ (x &&& (x - 1)).testBit i = (x.testBit i && decide (i ≠ k)) := by
  have hx : ∀ i, x.testBit i = (decide (k ≤ i) && (2 * m + 1).testBit (i - k)) := fun i => by rw [e, Nat.mul_comm, Nat.testBit_mul_two_pow]
  have hy : x - 1 = 2 ^ k * (2 * m) + (2 ^ k - 1) := by
    have : 0 < 2 ^ k := Nat.two_pow_pos k
    rw [e, Nat.mul_add, Nat.mul_one]; omega
  have hlt : 2 ^ k - 1 < 2 ^ k := by have : 0 < 2 ^ k := Nat.two_pow_pos k; omega
  refine ⟨fun h => ?_, ?_, ?_⟩
  · rw [hx] at h
    simp at h
    exact h.1
  · rw [hx]; simp
  · rw [Nat.testBit_and, hy, Nat.testBit_two_pow_mul_add _ hlt, hx]
    by_cases h1 : i < k
    · simp [h1, show ¬ k ≤ i by omega]
    · by_cases h2 : i = k
      · subst h2; simp
      · obtain ⟨j, rfl⟩ : ∃ j, i = k + (j + 1) := ⟨i - k - 1, by omega⟩
        have e3 : k + (j + 1) - k = j + 1 := by omega
        rw [e3, Nat.testBit_succ, Nat.testBit_succ]
        have d1 : (2 * m + 1) / 2 = m := by omega
        have d2 : 2 * m / 2 = m := by omega
        simp only [d1, d2, h1, h2, if_false, show k ≤ k + (j + 1) by omega, decide_true, Bool.true_and, ne_eq, not_false_eq_true, Bool.and_true, Bool.and_self]
theorem pts_off {x k m : Nat} (h : x < 2 ^ 64) (e : x = 2 ^ k * (2 * m + 1)) : pts x = k :: pts (x &&& (x - 1)) := by
  have hle : x &&& (x - 1) ≤ x := Nat.and_le_left
  refine pts_ext (List.pairwise_cons.2 ⟨fun y hy => ?_, pts_rise _⟩) h fun i => ?_
  · have := (pts_mem.1 hy).2
    obtain ⟨h1, h2, h3⟩ := low_off e y
    rw [h3] at this
    simp at this
    have := h1 this.1
    omega
  · obtain ⟨h1, h2, h3⟩ := low_off e i
    rw [List.mem_cons, pts_mem' (by omega), h3]
    constructor
    · intro hi
      by_cases ek : i = k
      · exact .inl ek
      · exact .inr (by simp [hi, ek])
    · rintro (rfl | hi)
      · exact h2
      · simp at hi; exact hi.1

end Go.Proofs.YtjfjdidibglhaabDoor
