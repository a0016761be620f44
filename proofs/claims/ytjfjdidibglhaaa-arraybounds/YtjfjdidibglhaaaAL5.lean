/- The law ArrayBounds. -/
import Derived.Test.YtjfjdidibglhaaaB3
namespace Go.Proofs.Ytjfjdidibglhaaa
open Go.RowKit

set_option maxRecDepth 100000 in
set_option maxHeartbeats 8000000 in
theorem Bounds_law (k s t : Int) (w : World) (_hk : (Lit.int .i64 k).wf = true) (_hs : (Lit.int .i64 s).wf = true) (_ht : (Lit.int .i64 t).wf = true) :
    Calls Try.prog 5 #[.int .i64 k, .int .i64 s, .int .i64 t] w fun e w' => e = .returned (.bool true) ∧ Below w.heap.size w w' := by
  by_cases h : 1 ≤ k ∧ k ≤ 30 ∧ levB s = true ∧ 0 ≤ t ∧ t ≤ k
  · obtain ⟨h1, h2, h3, h4, h5⟩ := h
    unfold levB at h3
    rw [Bool.and_eq_true, decide_eq_true_eq, decide_eq_true_eq] at h3
    obtain ⟨k, rfl⟩ : ∃ n : Nat, k = n := ⟨k.toNat, by omega⟩
    obtain ⟨s, rfl⟩ : ∃ n : Nat, s = n := ⟨s.toNat, by omega⟩
    obtain ⟨t, rfl⟩ : ∃ n : Nat, t = n := ⟨t.toNat, by omega⟩
    have C1 := Rao_ok k s t w (by omega) (by omega) (by omega) (by omega) (by omega)
    have C2 := RaoOf_any k s t w (by omega) (by omega) (by omega) (by omega) (by omega)
    have d1 : decide ((k : Int) < 1) = false := by simp; omega
    have d1n : decide (k < 1) = false := by simp; omega
    have d2 : decide ((30 : Int) < (k : Int)) = false := by simp; omega
    have d2n : decide (30 < k) = false := by simp; omega
    have d3 : decide ((s : Int) < 2) = false := by simp; omega
    have d3n : decide (s < 2) = false := by simp; omega
    have d4 : decide ((64 : Int) < (s : Int)) = false := by simp; omega
    have d4n : decide (64 < s) = false := by simp; omega
    have d5 : decide ((t : Int) < 0) = false := by simp
    have d6 : decide ((k : Int) < (t : Int)) = false := by simp; omega
    have d6n : decide (k < t) = false := by simp; omega
    clear h1 h2 h3 h4 h5
    by_cases hb : raN k s t ≤ 1000000000000000000
    · have e1 : raA k s t = raN k s t := if_pos hb
      have e2 : raE k s t = 0 := if_pos hb
      rw [e1, e2] at C1
      rw [upT_small hb] at C2
      obtain ⟨z, Hz⟩ : ∃ z, Hid (raN k s t = z) := ⟨_, rfl⟩
      rw [Hz.out] at C1 C2
      have d7 : decide ((z : Int) < 0) = false := by simp
      clear e1 e2 hb
      go_enter Try.func5, Try.ntmps5
      go_wp2_with (first
        | (go_at_call 17; refine C1.mono ?_; rintro e1 w1 ⟨rfl, h1⟩; replace h1 := h1.symm; subst h1; clear C1)
        | (go_at_call 18; refine C2.mono ?_; rintro e2 w2 ⟨rfl, b2⟩; clear C2))
      go_ret
      exact ⟨by simp, b2⟩
    · have e1 : raA k s t = 0 := if_neg hb
      have e2 : raE k s t = 3 := if_neg hb
      rw [e1, e2] at C1
      rw [upT_big (by omega)] at C2
      clear e1 e2 hb
      go_enter Try.func5, Try.ntmps5
      go_wp2_with (first
        | (go_at_call 17; refine C1.mono ?_; rintro e1 w1 ⟨rfl, h1⟩; replace h1 := h1.symm; subst h1; clear C1)
        | (go_at_call 18; refine C2.mono ?_; rintro e2 w2 ⟨rfl, b2⟩; clear C2))
      go_ret
      exact ⟨by simp, b2⟩
  · have C1 := Rao_bad k s t w h
    by_cases h1 : k < 1
    · have d1 : decide (k < 1) = true := decide_eq_true h1
      clear h h1
      go_enter Try.func5, Try.ntmps5
      go_wp2_with (go_at_call 17; refine C1.mono ?_; rintro e1 w1 ⟨rfl, h1⟩; replace h1 := h1.symm; subst h1; clear C1)
      go_ret
      exact ⟨by simp, Below.refl _ _⟩
    · have d1 : decide (k < 1) = false := decide_eq_false h1
      by_cases h2 : 30 < k
      · have d2 : decide (30 < k) = true := decide_eq_true h2
        clear h h1 h2
        go_enter Try.func5, Try.ntmps5
        go_wp2_with (go_at_call 17; refine C1.mono ?_; rintro e1 w1 ⟨rfl, h1⟩; replace h1 := h1.symm; subst h1; clear C1)
        go_ret
        exact ⟨by simp, Below.refl _ _⟩
      · have d2 : decide (30 < k) = false := decide_eq_false h2
        by_cases h3 : s < 2
        · have d3 : decide (s < 2) = true := decide_eq_true h3
          clear h h1 h2 h3
          go_enter Try.func5, Try.ntmps5
          go_wp2_with (go_at_call 17; refine C1.mono ?_; rintro e1 w1 ⟨rfl, h1⟩; replace h1 := h1.symm; subst h1; clear C1)
          go_ret
          exact ⟨by simp, Below.refl _ _⟩
        · have d3 : decide (s < 2) = false := decide_eq_false h3
          by_cases h4 : 64 < s
          · have d4 : decide (64 < s) = true := decide_eq_true h4
            clear h h1 h2 h3 h4
            go_enter Try.func5, Try.ntmps5
            go_wp2_with (go_at_call 17; refine C1.mono ?_; rintro e1 w1 ⟨rfl, h1⟩; replace h1 := h1.symm; subst h1; clear C1)
            go_ret
            exact ⟨by simp, Below.refl _ _⟩
          · have d4 : decide (64 < s) = false := decide_eq_false h4
            have hl : levB s = true := by
              unfold levB
              rw [Bool.and_eq_true, decide_eq_true_eq, decide_eq_true_eq]
              omega
            by_cases h5 : t < 0
            · have d5 : decide (t < 0) = true := decide_eq_true h5
              clear h h1 h2 h3 h4 h5 hl
              go_enter Try.func5, Try.ntmps5
              go_wp2_with (go_at_call 17; refine C1.mono ?_; rintro e1 w1 ⟨rfl, h1⟩; replace h1 := h1.symm; subst h1; clear C1)
              go_ret
              exact ⟨by simp, Below.refl _ _⟩
            · have d5 : decide (t < 0) = false := decide_eq_false h5
              have d6 : decide (k < t) = true := decide_eq_true (Classical.byContradiction fun q => h ⟨by omega, by omega, hl, by omega, by omega⟩)
              clear h h1 h2 h3 h4 h5 hl
              go_enter Try.func5, Try.ntmps5
              go_wp2_with (go_at_call 17; refine C1.mono ?_; rintro e1 w1 ⟨rfl, h1⟩; replace h1 := h1.symm; subst h1; clear C1)
              go_ret
              exact ⟨by simp, Below.refl _ _⟩
end Go.Proofs.Ytjfjdidibglhaaa
