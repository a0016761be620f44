/- The document's way to part a word: each time the longest beginning that is a Lyndon word. -/
import Derived.Test.YtcjkcgfohmhbcabWdL
namespace Go.Proofs.Ytcjkcgfohmhbcab

def ahB : List Nat → List Nat → Bool
  | _, [] => false
  | [], _ :: _ => true
  | a :: x, b :: y => decide (a < b) || (a == b && ahB x y)
theorem ahB_is : ∀ x y, ahB x y = true ↔ Ah x y
  | x, [] => by
    have e : ahB x [] = false := by cases x <;> rfl
    rw [e]
    exact ⟨fun h => absurd h (by decide), fun h => absurd h (ah_nil x)⟩
  | [], _ :: _ => ⟨fun _ => trivial, fun _ => rfl⟩
  | a :: x, b :: y => by
    show (decide (a < b) || (a == b && ahB x y)) = true ↔ (a < b ∨ (a = b ∧ Ah x y))
    rw [Bool.or_eq_true, Bool.and_eq_true, decide_eq_true_iff, beq_iff_eq, ahB_is x y]
def lyB (w : List Nat) : Bool := decide (0 < w.length) && (List.range w.length).all fun i => i == 0 || ahB w (w.drop i)
theorem lyB_is (w : List Nat) : lyB w = true ↔ Lyn w := by
  unfold lyB
  rw [Bool.and_eq_true, decide_eq_true_iff, List.all_eq_true]
  constructor
  · rintro ⟨h0, h⟩
    refine ⟨List.length_pos_iff.1 h0, fun u v e hu hv => ?_⟩
    have hul := List.length_pos_iff.2 hu
    have hvl := List.length_pos_iff.2 hv
    have hl : w.length = u.length + v.length := by rw [e, List.length_append]
    have k := h u.length (List.mem_range.2 (by omega))
    rw [Bool.or_eq_true, beq_iff_eq, ahB_is] at k
    rcases k with k | k
    · omega
    · have ed : w.drop u.length = v := by rw [e, List.drop_left]
      rwa [ed] at k
  · intro h
    refine ⟨List.length_pos_iff.2 h.ne, fun i hi => ?_⟩
    have hi := List.mem_range.1 hi
    rw [Bool.or_eq_true, beq_iff_eq, ahB_is]
    rcases Nat.eq_zero_or_pos i with h0 | h0
    · exact Or.inl h0
    · refine Or.inr (h.beh (w.take i) (w.drop i) (List.take_append_drop i w).symm ?_ ?_)
      · rw [← List.length_pos_iff, List.length_take]; omega
      · rw [← List.length_pos_iff, List.length_drop]; omega
/-- The longest beginning, of up to n numbers, that is a Lyndon word; 1 if there is none longer. -/
def lgL (w : List Nat) : Nat → Nat
  | 0 => 1
  | n + 1 => if 1 < n + 1 ∧ lyB (w.take (n + 1)) = false then lgL w n else n + 1
theorem lgL_is (w : List Nat) : ∀ n, n ≤ w.length → 0 < w.length → 1 ≤ lgL w n ∧ lgL w n ≤ w.length ∧ Lyn (w.take (lgL w n)) ∧ ∀ m, lgL w n < m → m ≤ n → ¬ Lyn (w.take m)
  | 0, _, h0 => by
    obtain ⟨a, w, rfl⟩ : ∃ a v, w = a :: v := by cases w with | nil => simp at h0 | cons a v => exact ⟨a, v, rfl⟩
    exact ⟨Nat.le_refl _, by simp [lgL], lyn_one a, fun m h1 h2 => by omega⟩
  | n + 1, hn, h0 => by
    by_cases h : 1 < n + 1 ∧ lyB (w.take (n + 1)) = false
    · have e : lgL w (n + 1) = lgL w n := by rw [lgL, if_pos h]
      rw [e]
      obtain ⟨a, b, c, d⟩ := lgL_is w n (by omega) h0
      refine ⟨a, b, c, fun m h1 h2 k => ?_⟩
      by_cases hm : m = n + 1
      · subst hm
        have := (lyB_is _).2 k
        rw [h.2] at this
        cases this
      · exact d m h1 (by omega) k
    · have e : lgL w (n + 1) = n + 1 := by rw [lgL, if_neg h]
      rw [e]
      refine ⟨by omega, hn, ?_, fun m h1 h2 => by omega⟩
      by_cases h1 : n = 0
      · subst h1
        obtain ⟨a, w, rfl⟩ : ∃ a v, w = a :: v := by cases w with | nil => simp at h0 | cons a v => exact ⟨a, v, rfl⟩
        exact lyn_one a
      · cases hb : lyB (w.take (n + 1)) with
        | false => exact absurd ⟨by omega, hb⟩ h
        | true => exact (lyB_is _).1 hb
/-- The pieces. -/
def fcP : Nat → List Nat → List (List Nat)
  | 0, _ => []
  | f + 1, w => if w.length = 0 then [] else w.take (lgL w w.length) :: fcP f (w.drop (lgL w w.length))
theorem fcP_flat : ∀ (f : Nat) (w : List Nat), w.length ≤ f → (fcP f w).flatten = w
  | 0, w, h => by rw [List.length_eq_zero_iff.1 (by omega : w.length = 0)]; rfl
  | f + 1, w, h => by
    by_cases h0 : w.length = 0
    · rw [fcP, if_pos h0, List.length_eq_zero_iff.1 h0]; rfl
    · have hg := lgL_is w w.length (Nat.le_refl _) (by omega)
      rw [fcP, if_neg h0, List.flatten_cons, fcP_flat f _ (by rw [List.length_drop]; omega), List.take_append_drop]
theorem fcP_fal : ∀ (f : Nat) (w : List Nat), w.length ≤ f → Fal (fcP f w)
  | 0, w, h => trivial
  | f + 1, w, h => by
    by_cases h0 : w.length = 0
    · rw [fcP, if_pos h0]; trivial
    · obtain ⟨g1, g2, g3, g4⟩ := lgL_is w w.length (Nat.le_refl _) (by omega)
      have hl : (w.drop (lgL w w.length)).length ≤ f := by rw [List.length_drop]; omega
      have hF := fcP_fal f _ hl
      have hT := fcP_flat f _ hl
      rw [fcP, if_neg h0]
      generalize hg : lgL w w.length = g at *
      match hr : fcP f (w.drop g), hF, hT with
      | [], _, _ => exact g3
      | m :: r, hF, hT =>
        refine ⟨g3, fun ha => ?_, hF⟩
        have k := g3.app hF.lyn ha
        have hm : 0 < m.length := List.length_pos_iff.2 hF.lyn.ne
        have e : w.take g ++ m = w.take (g + m.length) := by
          have e1 : w = w.take g ++ (m ++ r.flatten) := by
            have : m ++ r.flatten = w.drop g := hT
            rw [this, List.take_append_drop]
          have e2 : (w.take g).length = g := by rw [List.length_take]; omega
          have e3 : (w.take g ++ m).length = g + m.length := by rw [List.length_append, e2]
          rw [← List.append_assoc] at e1
          have e4 : w.take (g + m.length) = (w.take g ++ m ++ r.flatten).take (w.take g ++ m).length := by rw [e3, ← e1]
          rw [e4, List.take_left]
        rw [e] at k
        have hle : g + m.length ≤ w.length := by
          have := congrArg List.length hT
          rw [List.flatten_cons, List.length_append, List.length_drop] at this
          omega
        exact g4 _ (by omega) hle k
/-- Whatever falls and makes the word is what the document finds. -/
theorem fcP_one {w : List Nat} {r : List (List Nat)} (h : Fal r) (e : r.flatten = w) : r = fcP w.length w :=
  Fal.one h (fcP_fal _ _ (Nat.le_refl _)) (e.trans (fcP_flat _ _ (Nat.le_refl _)).symm)
end Go.Proofs.Ytcjkcgfohmhbcab
