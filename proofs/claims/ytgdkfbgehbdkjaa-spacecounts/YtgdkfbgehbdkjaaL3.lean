/- The law SpaceCounts, walked. -/
import Derived.Test.YtgdkfbgehbdkjaaC3
import Derived.Test.YtgdkfbgehbdkjaaC5
namespace Go.Proofs.Ytgdkfbgehbdkjaa
open Go.RowKit

set_option maxRecDepth 100000 in
set_option maxHeartbeats 4000000 in
theorem law3_bad (n k q : Int) (w : World) (h : ¬ GIn n k q) :
    Calls Try.prog 3 #[.int .i64 n, .int .i64 k, .int .i64 q] w fun e w' => e = .returned (.bool true) ∧ Below w.heap.size w w' := by
  have C := Gauss_bad n k q w h
  by_cases h1 : n < 0
  · go_enter Try.func3, Try.ntmps3
    go_wp2_with (go_at_call 4; refine C.mono ?_; rintro e w1 ⟨rfl, b1⟩)
    go_ret
    exact ⟨rfl, b1⟩
  have d1 : decide (n < 0) = false := by simp; omega
  by_cases h2 : 30 < n
  · go_enter Try.func3, Try.ntmps3
    go_wp2_with (go_at_call 4; refine C.mono ?_; rintro e w1 ⟨rfl, b1⟩)
    go_ret
    exact ⟨rfl, b1⟩
  have d2 : decide (30 < n) = false := by simp; omega
  by_cases h3 : k < 0
  · go_enter Try.func3, Try.ntmps3
    go_wp2_with (go_at_call 4; refine C.mono ?_; rintro e w1 ⟨rfl, b1⟩)
    go_ret
    exact ⟨rfl, b1⟩
  have d3 : decide (k < 0) = false := by simp; omega
  by_cases h4 : n < k
  · go_enter Try.func3, Try.ntmps3
    go_wp2_with (go_at_call 4; refine C.mono ?_; rintro e w1 ⟨rfl, b1⟩)
    go_ret
    exact ⟨rfl, b1⟩
  have d4 : decide (n < k) = false := by simp; omega
  by_cases h5 : q < 2
  · go_enter Try.func3, Try.ntmps3
    go_wp2_with (go_at_call 4; refine C.mono ?_; rintro e w1 ⟨rfl, b1⟩)
    go_ret
    exact ⟨rfl, b1⟩
  have d5 : decide (q < 2) = false := by simp; omega
  have h6 : 64 < q := by unfold GIn at h; omega
  go_enter Try.func3, Try.ntmps3
  go_wp2_with (go_at_call 4; refine C.mono ?_; rintro e w1 ⟨rfl, b1⟩)
  go_ret
  exact ⟨rfl, b1⟩
set_option maxRecDepth 100000 in
set_option maxHeartbeats 4000000 in
theorem law3_main (n k q : Nat) (w : World) (hn : n ≤ 30) (hk : k ≤ n) (hq2 : 2 ≤ q) (hq : q ≤ 64) :
    Calls Try.prog 3 #[.int .i64 (n : Int), .int .i64 (k : Int), .int .i64 (q : Int)] w fun e w' => e = .returned (.bool true) ∧ Below w.heap.size w w' := by
  have C := Gauss_any n k q w hn hk hq2 hq
  have D := fun W => GaussOf_any n k q W hn hk hq2 hq
  have d1 : decide ((n : Int) < 0) = false := by simp
  have d2 : decide ((30 : Int) < n) = false := by simp; omega
  have d2n : decide (30 < n) = false := by simp; omega
  have d3 : decide ((k : Int) < 0) = false := by simp
  have d4 : decide ((n : Int) < k) = false := by simp; omega
  have d4n : decide (n < k) = false := by simp; omega
  have d5 : decide ((q : Int) < 2) = false := by simp; omega
  have d5n : decide (q < 2) = false := by simp; omega
  have d6 : decide ((64 : Int) < q) = false := by simp; omega
  have d6n : decide (64 < q) = false := by simp; omega
  by_cases hg : gs q n k ≤ 1000000000000000000
  · have e1 : gA q n k = gs q n k := by unfold gA; rw [if_pos hg]
    have e2 : gE q n k = 0 := by unfold gE; rw [if_pos hg]
    rw [e1, e2] at C
    rw [upT_small hg] at D
    obtain ⟨x, Hx⟩ : ∃ x, Hid (gs q n k = x) := ⟨_, rfl⟩
    rw [Hx.out] at C D
    have dx : decide ((x : Int) < 0) = false := by simp
    have ex : ((x : Int) == (x : Int)) = true := by simp
    clear e1 e2 hg
    go_enter Try.func3, Try.ntmps3
    go_wp2_with (first | (go_at_call 4; refine C.mono ?_; rintro e w1 ⟨rfl, b1⟩; clear C) | (go_at_call 5; refine (D _).mono ?_; rintro e w2 ⟨rfl, b2⟩; clear D))
    go_ret
    exact ⟨rfl, Below.next b1 b2⟩
  · have e1 : gA q n k = 0 := by unfold gA; rw [if_neg hg]
    have e2 : gE q n k = 3 := by unfold gE; rw [if_neg hg]
    rw [e1, e2] at C
    rw [upT_big (by omega)] at D
    clear e1 e2 hg
    go_enter Try.func3, Try.ntmps3
    go_wp2_with (first | (go_at_call 4; refine C.mono ?_; rintro e w1 ⟨rfl, b1⟩; clear C) | (go_at_call 5; refine (D _).mono ?_; rintro e w2 ⟨rfl, b2⟩; clear D))
    go_ret
    exact ⟨rfl, Below.next b1 b2⟩
theorem law3_any (n k q : Int) (w : World) :
    Calls Try.prog 3 #[.int .i64 n, .int .i64 k, .int .i64 q] w fun e w' => e = .returned (.bool true) ∧ Below w.heap.size w w' := by
  by_cases h : GIn n k q
  · obtain ⟨N, K, Q, rfl, rfl, rfl, h1, h2, h3, h4⟩ := h.nat
    exact law3_main N K Q w h1 h2 h3 h4
  · exact law3_bad n k q w h
end Go.Proofs.Ytgdkfbgehbdkjaa
