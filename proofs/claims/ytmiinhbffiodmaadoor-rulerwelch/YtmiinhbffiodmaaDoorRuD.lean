/- No Golomb ruler is shorter; nothing of the program. -/
import Derived.Test.YtmiinhbffiodmaaDoorRuA
/- No Golomb ruler is shorter: a search over sets as bits, which the kernel makes; nothing of the program. -/
namespace Go.Proofs.YtmiinhbffiodmaaDoor

/-- Can r marks more be laid, none further on than 'room', where B has how far behind the marks lie and ds what differences there are? -/
def srch : Nat → Nat → Nat → Nat → Bool
  | 0, _, _, _ => true
  | r + 1, room, B, ds => (List.range room).any fun d => (Nat.land (Nat.shiftLeft B (d + 1)) ds == 0) && srch r (room - (d + 1)) (Nat.lor (Nat.shiftLeft B (d + 1)) 1) (Nat.lor (Nat.shiftLeft B (d + 1)) ds)
theorem srch2 : srch 1 0 1 0 = false := by decide +kernel
theorem srch3 : srch 2 2 1 0 = false := by decide +kernel
theorem srch4 : srch 3 5 1 0 = false := by decide +kernel
theorem srch5 : srch 4 10 1 0 = false := by decide +kernel
theorem srch6 : srch 5 16 1 0 = false := by decide +kernel
theorem srch7 : srch 6 24 1 0 = false := by decide +kernel

end Go.Proofs.YtmiinhbffiodmaaDoor

namespace Go.Proofs.YtmiinhbffiodmaaDoor

theorem tb_shl {x i j : Nat} (h : (Nat.shiftLeft x i).testBit j = true) : i ≤ j ∧ x.testBit (j - i) = true := by
  have h' : (x <<< i).testBit j = true := h
  rw [Nat.testBit_shiftLeft, Bool.and_eq_true, decide_eq_true_eq] at h'
  exact h'
theorem tb_or {x y j : Nat} (h : (Nat.lor x y).testBit j = true) : x.testBit j = true ∨ y.testBit j = true := by
  have h' : (x ||| y).testBit j = true := h
  rwa [Nat.testBit_or, Bool.or_eq_true] at h'
theorem tb_one {j : Nat} (h : (1 : Nat).testBit j = true) : j = 0 := by
  rcases Nat.eq_zero_or_pos j with e | e
  · exact e
  · obtain ⟨k, rfl⟩ : ∃ k, j = k + 1 := ⟨j - 1, by omega⟩
    rw [Nat.testBit_succ] at h
    simp at h
theorem srch_sound {l : List Nat} (hr : l.Pairwise (· < ·)) (hg : Unl (gdF l) l.length) : ∀ (r i room B ds : Nat), i + r + 1 = l.length → l.getD (l.length - 1) 0 - l.getD i 0 ≤ room →
    (∀ d, B.testBit d = true → ∃ j, j ≤ i ∧ l.getD i 0 - l.getD j 0 = d) → (∀ d, ds.testBit d = true → ∃ k j, j < k ∧ k ≤ i ∧ l.getD k 0 - l.getD j 0 = d) → srch r room B ds = true
  | 0, _, _, _, _, _, _, _, _ => rfl
  | r + 1, i, room, B, ds, hl, hroom, hB, hds => by
    have h1 := rise_lt hr (show i < i + 1 by omega) (by omega)
    have h2 := rise_le hr (show i + 1 ≤ l.length - 1 by omega) (by omega)
    obtain ⟨d, hd⟩ : ∃ d, l.getD (i + 1) 0 = l.getD i 0 + (d + 1) := ⟨l.getD (i + 1) 0 - l.getD i 0 - 1, by omega⟩
    have hnew : ∀ e, (Nat.shiftLeft B (d + 1)).testBit e = true → ∃ j, j ≤ i ∧ l.getD (i + 1) 0 - l.getD j 0 = e := fun e he => by
      obtain ⟨a, b⟩ := tb_shl he
      obtain ⟨j, hj, ej⟩ := hB _ b
      have := rise_le hr hj (by omega)
      exact ⟨j, hj, by omega⟩
    unfold srch
    rw [List.any_eq_true]
    refine ⟨d, List.mem_range.2 (by omega), ?_⟩
    rw [Bool.and_eq_true]
    refine ⟨?_, srch_sound hr hg r (i + 1) _ _ _ (by omega) (by omega) (fun e he => ?_) (fun e he => ?_)⟩
    · rw [beq_iff_eq]
      refine Nat.eq_of_testBit_eq fun e => ?_
      rw [Nat.zero_testBit]
      show ((Nat.shiftLeft B (d + 1)) &&& ds).testBit e = false
      rw [Nat.testBit_and, Bool.and_eq_false_iff]
      cases c1 : (Nat.shiftLeft B (d + 1)).testBit e
      · exact .inl rfl
      · refine .inr ?_
        cases c2 : ds.testBit e
        · rfl
        · obtain ⟨j, hj, ej⟩ := hnew e c1
          obtain ⟨k, m, hm, hk, ek⟩ := hds e c2
          have q1 := rise_le hr (show j ≤ i + 1 by omega) (by omega)
          have q2 := rise_lt hr hm (by omega)
          have := (hg (i + 1) j k m (by omega) (by omega) hm (by omega) (by unfold gdF; omega)).1
          omega
    · rcases tb_or he with h | h
      · obtain ⟨j, hj, ej⟩ := hnew e h
        exact ⟨j, by omega, ej⟩
      · obtain rfl := tb_one h
        exact ⟨i + 1, Nat.le_refl _, by omega⟩
    · rcases tb_or he with h | h
      · obtain ⟨j, hj, ej⟩ := hnew e h
        exact ⟨i + 1, j, by omega, Nat.le_refl _, ej⟩
      · obtain ⟨k, m, hm, hk, ek⟩ := hds e h
        exact ⟨k, m, hm, by omega, ek⟩
/-- How long the best are, and which the first ones are. -/
def bestL : Nat → List Nat
  | 1 => [0]
  | 2 => [0, 1]
  | 3 => [0, 1, 3]
  | 4 => [0, 1, 4, 6]
  | 5 => [0, 1, 4, 9, 11]
  | 6 => [0, 1, 4, 10, 12, 17]
  | 7 => [0, 1, 4, 10, 18, 23, 25]
  | _ => []
def bestN (n : Nat) : Nat := (bestL n).getD (n - 1) 0
theorem best_none : ∀ n : Fin 8, 2 ≤ n.val → srch (n.val - 1) (bestN n.val - 1) 1 0 = false := by
  intro n h
  match n, h with
  | ⟨2, _⟩, _ => exact srch2
  | ⟨3, _⟩, _ => exact srch3
  | ⟨4, _⟩, _ => exact srch4
  | ⟨5, _⟩, _ => exact srch5
  | ⟨6, _⟩, _ => exact srch6
  | ⟨7, _⟩, _ => exact srch7
/-- No Golomb ruler of as many marks is shorter. -/
theorem best_short {l : List Nat} (hr : l.Pairwise (· < ·)) (h0 : l.getD 0 0 = 0) (hg : golB l = true) (h1 : 1 ≤ l.length) (h7 : l.length ≤ 7) : bestN l.length ≤ l.getD (l.length - 1) 0 := by
  by_cases e : l.length = 1
  · rw [e]; exact Nat.zero_le _
  · apply Classical.byContradiction
    intro hn
    have hs := srch_sound hr (golB_iff.1 hg) (l.length - 1) 0 (bestN l.length - 1) 1 0 (by omega) (by omega) (fun d hd => ⟨0, Nat.le_refl _, by rw [tb_one hd]; omega⟩) (fun d hd => by rw [Nat.zero_testBit] at hd; cases hd)
    have := best_none ⟨l.length, by omega⟩ (by show 2 ≤ l.length; omega)
    rw [hs] at this
    cases this
theorem best_gol : ∀ n : Fin 8, 1 ≤ n.val → golB (bestL n.val) = true ∧ (bestL n.val).length = n.val ∧ (bestL n.val).Pairwise (· < ·) ∧ (bestL n.val).getD 0 0 = 0 := by decide +kernel

end Go.Proofs.YtmiinhbffiodmaaDoor
