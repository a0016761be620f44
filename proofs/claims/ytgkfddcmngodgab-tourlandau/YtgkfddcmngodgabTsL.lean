/- Landau's way to ask: prefix sums of the ordered scores. Nothing of the program. -/
import Derived.Test.YtgkfddcmngodgabTrL
namespace Go.Proofs.Ytgkfddcmngodgab

def prN (k : Nat) : Nat := k * (k - 1) / 2
def pfS (s : List Nat) (k : Nat) : Nat := sumL (s.take k)
theorem pfS_zero (s : List Nat) : pfS s 0 = 0 := by unfold pfS; rw [List.take_zero]; rfl
theorem pfS_more {s : List Nat} {k : Nat} (h : k < s.length) : pfS s (k + 1) = pfS s k + s.getD k 0 := by
  unfold pfS
  rw [List.take_add_one, sumL_append, List.getElem?_eq_getElem h, List.getD_eq_getElem?_getD, List.getElem?_eq_getElem h]
  simp [sumL]
/-- The least scores, so many of them, have won enough; all have won just so much. -/
def ldB (s : List Nat) : Bool := ((List.range s.length).all fun k => !decide (pfS s (k + 1) < prN (k + 1))) && pfS s s.length == prN s.length
theorem sumL_perm {l m : List Nat} (h : l.Perm m) : sumL l = sumL m := by
  induction h with
  | nil => rfl
  | cons x _ ih => rw [sumL_cons, sumL_cons, ih]
  | swap x y l => rw [sumL_cons, sumL_cons, sumL_cons, sumL_cons]; omega
  | trans _ _ h1 h2 => rw [h1, h2]
theorem sub_sum : ∀ {s T : List Nat}, T.Sublist s → s.Pairwise (· ≤ ·) → sumL (s.take T.length) ≤ sumL T
  | [], T, h, _ => by rw [List.sublist_nil.1 h]; exact Nat.le_refl _
  | x :: s, [], _, _ => by simp [sumL]
  | x :: s, y :: T, h, hp => by
    have hp1 := List.pairwise_cons.1 hp
    rw [List.length_cons, List.take_succ_cons, sumL_cons, sumL_cons]
    cases h with
    | cons _ h =>
      have hy : x ≤ y := hp1.1 y (h.subset (by simp))
      have hT : T.Sublist s := (List.sublist_cons_self y T).trans h
      have := sub_sum hT hp1.2
      omega
    | cons_cons _ h =>
      have := sub_sum h hp1.2
      omega
theorem inS_push (n m : Nat) : inS (n + 1) m = (if m.testBit 0 then [0] else []) ++ (inS n (m / 2)).map (· + 1) := by
  unfold inS
  rw [List.range_succ_eq_map]
  have e : ((List.range n).map Nat.succ).filter (fun i => m.testBit i) = ((List.range n).filter fun i => (m / 2).testBit i).map (· + 1) := by
    rw [List.filter_map]
    congr 1
    refine List.filter_congr fun i _ => ?_
    show m.testBit (i + 1) = _
    rw [Nat.testBit_succ]
  cases h : m.testBit 0 with
  | true => rw [List.filter_cons_of_pos h, e]; rfl
  | false => rw [List.filter_cons_of_neg (by rw [h]; simp), e]; rfl
theorem mask_val (x : Nat) (l : List Nat) (m : Nat) : (inS (l.length + 1) m).map (fun i => (x :: l).getD i 0) = (if m.testBit 0 then [x] else []) ++ (inS l.length (m / 2)).map fun i => l.getD i 0 := by
  rw [inS_push, List.map_append, List.map_map]
  congr 1
  cases m.testBit 0 <;> rfl
theorem mask_sub : ∀ (l : List Nat) (m : Nat), ((inS l.length m).map fun i => l.getD i 0).Sublist l
  | [], m => by simp [inS]
  | x :: l, m => by
    rw [List.length_cons, mask_val]
    have h := mask_sub l (m / 2)
    cases m.testBit 0 with
    | true => exact h.cons_cons x
    | false => exact h.cons x
theorem mask_of : ∀ {l T : List Nat}, T.Sublist l → ∃ m, m < 2 ^ l.length ∧ (inS l.length m).map (fun i => l.getD i 0) = T
  | [], T, h => ⟨0, by simp, by rw [List.sublist_nil.1 h]; rfl⟩
  | x :: l, T, h => by
    cases h with
    | cons _ h =>
      obtain ⟨m, hm, e⟩ := mask_of h
      refine ⟨2 * m, by rw [List.length_cons, Nat.pow_succ]; omega, ?_⟩
      rw [List.length_cons, mask_val, show (2 * m).testBit 0 = false by simp, show 2 * m / 2 = m by omega, e]
      rfl
    | cons_cons _ h =>
      obtain ⟨m, hm, e⟩ := mask_of h
      refine ⟨2 * m + 1, by rw [List.length_cons, Nat.pow_succ]; omega, ?_⟩
      rw [List.length_cons, mask_val, show (2 * m + 1).testBit 0 = true by simp, show (2 * m + 1) / 2 = m by omega, e]
      rfl
theorem okS_sets (l : List Nat) (m : Nat) : okS l m = true ↔ ∀ T, (inS l.length m).map (fun i => l.getD i 0) = T → ¬ sumL T < prN T.length ∧ (T.length = l.length → ¬ prN T.length < sumL T) := by
  have hl : (inS l.length m).length = ((inS l.length m).map fun i => l.getD i 0).length := by simp
  unfold okS
  rw [hl]
  generalize (inS l.length m).map (fun i => l.getD i 0) = T
  show (!(decide (sumL T < prN T.length) || (T.length == l.length && decide (prN T.length < sumL T)))) = true ↔ _
  constructor
  · rintro h T' rfl
    simp only [Bool.not_eq_true', Bool.or_eq_false_iff, Bool.and_eq_false_iff, decide_eq_false_iff_not, beq_eq_false_iff_ne] at h
    exact ⟨h.1, fun e => h.2.elim (fun k => absurd e k) id⟩
  · intro h
    obtain ⟨h1, h2⟩ := h T rfl
    simp only [Bool.not_eq_true', Bool.or_eq_false_iff, Bool.and_eq_false_iff, decide_eq_false_iff_not, beq_eq_false_iff_ne]
    refine ⟨h1, ?_⟩
    by_cases e : T.length = l.length
    · exact .inr (h2 e)
    · exact .inl e
/-- Landau's theorem is what is asked of all sets. -/
theorem landau_is {s L : List Nat} (hp : s.Perm L) (hs : s.Pairwise (· ≤ ·)) : ldB s = coB L := by
  have hl := hp.length_eq
  rw [Bool.eq_iff_iff]
  unfold ldB coB
  simp only [Bool.and_eq_true, List.all_eq_true, Bool.or_eq_true, beq_iff_eq, List.mem_range, Bool.not_eq_true', decide_eq_false_iff_not]
  constructor
  · rintro ⟨h1, h2⟩ m _
    right
    rw [okS_sets]
    rintro T rfl
    have hsub := mask_sub L m
    generalize (inS L.length m).map (fun i => L.getD i 0) = T at hsub
    constructor
    · obtain ⟨T', hT', hsub'⟩ := List.exists_perm_sublist hsub hp.symm
      have k := sub_sum hsub' hs
      rw [hT'.length_eq, sumL_perm hT'] at k
      have hle := hsub.length_le
      rcases Nat.eq_zero_or_pos T.length with h0 | h0
      · rw [h0]; unfold prN; simp
      · have := h1 (T.length - 1) (by omega)
        rw [show T.length - 1 + 1 = T.length by omega] at this
        unfold pfS at this
        omega
    · intro e
      have : T = L := hsub.eq_of_length e
      subst this
      unfold pfS at h2
      rw [List.take_length, sumL_perm hp, hl] at h2
      omega
  · intro h
    have key : ∀ k, 0 < k → k ≤ s.length → ∃ T, sumL T = pfS s k ∧ T.length = k ∧ ¬ sumL T < prN T.length ∧ (T.length = L.length → ¬ prN T.length < sumL T) := fun k h0 hk => by
      obtain ⟨T, hT, hsub⟩ := List.exists_perm_sublist (List.take_sublist k s) hp
      obtain ⟨m, hm, e⟩ := mask_of hsub
      have hT1 : T.length = k := by rw [hT.length_eq, List.length_take]; omega
      rcases h m hm with h | h
      · subst h
        have : T = [] := by
          rw [← e]
          have : inS L.length 0 = [] := List.filter_eq_nil_iff.2 fun i _ => by simp
          rw [this]
          rfl
        rw [this] at hT1
        simp at hT1
        omega
      · have := (okS_sets L m).1 h T e
        exact ⟨T, sumL_perm hT, hT1, this⟩
    constructor
    · intro k hk
      obtain ⟨T, e1, e2, e3, _⟩ := key (k + 1) (by omega) (by omega)
      rwa [e1, e2] at e3
    · rcases Nat.eq_zero_or_pos s.length with h0 | h0
      · rw [h0, pfS_zero]; rfl
      · obtain ⟨T, e1, e2, e3, e4⟩ := key s.length h0 (Nat.le_refl _)
        rw [e1, e2] at e3 e4
        have := e4 hl
        omega
end Go.Proofs.Ytgkfddcmngodgab
