/- The walk of the program's Gauss. -/
import Derived.Test.YtgdkfbgehbdkjaaC2
namespace Go.Proofs.Ytgdkfbgehbdkjaa
open Go.RowKit

def GIn (n k q : Int) : Prop := 0 ≤ n ∧ n ≤ 30 ∧ 0 ≤ k ∧ k ≤ n ∧ 2 ≤ q ∧ q ≤ 64
theorem GIn.nat {n k q : Int} (h : GIn n k q) : ∃ N K Q : Nat, n = N ∧ k = K ∧ q = Q ∧ N ≤ 30 ∧ K ≤ N ∧ 2 ≤ Q ∧ Q ≤ 64 := by
  obtain ⟨h1, h2, h3, h4, h5, h6⟩ := h
  exact ⟨n.toNat, k.toNat, q.toNat, by omega, by omega, by omega, by omega, by omega, by omega, by omega⟩
set_option maxRecDepth 100000 in
set_option maxHeartbeats 4000000 in
theorem Gauss_bad (n k q : Int) (w : World) (h : ¬ GIn n k q) :
    Calls Try.prog 4 #[.int .i64 n, .int .i64 k, .int .i64 q] w fun e w' => e = .returned (.tuple #[.int .i64 0, .int .i64 1]) ∧ Below w.heap.size w w' := by
  by_cases h1 : n < 0
  · go_enter Try.func4, Try.ntmps4
    go_wp2
    go_ret2
    exact ⟨rfl, Below.refl _ _⟩
  by_cases h2 : 30 < n
  · have d1 : decide (n < 0) = false := by simp; omega
    go_enter Try.func4, Try.ntmps4
    go_wp2
    go_ret2
    exact ⟨rfl, Below.refl _ _⟩
  by_cases h3 : k < 0
  · have d1 : decide (n < 0) = false := by simp; omega
    have d2 : decide (30 < n) = false := by simp; omega
    go_enter Try.func4, Try.ntmps4
    go_wp2
    go_ret2
    exact ⟨rfl, Below.refl _ _⟩
  by_cases h4 : n < k
  · have d1 : decide (n < 0) = false := by simp; omega
    have d2 : decide (30 < n) = false := by simp; omega
    have d3 : decide (k < 0) = false := by simp; omega
    go_enter Try.func4, Try.ntmps4
    go_wp2
    go_ret2
    exact ⟨rfl, Below.refl _ _⟩
  have d1 : decide (n < 0) = false := by simp; omega
  have d2 : decide (30 < n) = false := by simp; omega
  have d3 : decide (k < 0) = false := by simp; omega
  have d4 : decide (n < k) = false := by simp; omega
  by_cases h5 : q < 2
  · go_enter Try.func4, Try.ntmps4
    go_wp2
    go_ret2
    exact ⟨rfl, Below.refl _ _⟩
  have d5 : decide (q < 2) = false := by simp; omega
  have h6 : 64 < q := by unfold GIn at h; omega
  go_enter Try.func4, Try.ntmps4
  go_wp2
  go_ret2
  exact ⟨rfl, Below.refl _ _⟩
/-- What Gauss answers. -/
def gA (q n k : Nat) : Nat := if gs q n k ≤ 1000000000000000000 then gs q n k else 0
def gE (q n k : Nat) : Nat := if gs q n k ≤ 1000000000000000000 then 0 else 3
set_option maxRecDepth 100000 in
set_option maxHeartbeats 4000000 in
theorem Gauss_any (n k q : Nat) (w : World) (hn : n ≤ 30) (hk : k ≤ n) (hq2 : 2 ≤ q) (hq : q ≤ 64) :
    Calls Try.prog 4 #[.int .i64 (n : Int), .int .i64 (k : Int), .int .i64 (q : Int)] w fun e w' => e = .returned (.tuple #[.int .i64 (gA q n k : Int), .int .i64 (gE q n k : Int)]) ∧ Below w.heap.size w w' := by
  have d1 : decide ((n : Int) < 0) = false := by simp
  have d2 : decide ((30 : Int) < n) = false := by simp; omega
  have d3 : decide ((k : Int) < 0) = false := by simp
  have d4 : decide ((n : Int) < k) = false := by simp; omega
  have d5 : decide ((q : Int) < 2) = false := by simp; omega
  have d6 : decide ((64 : Int) < q) = false := by simp; omega
  have C := gauss_any n k q w hn hk hq
  obtain ⟨x, Hx⟩ : ∃ x, Hid (cnG q n k = x) := ⟨_, rfl⟩
  rw [Hx.out] at C
  obtain ⟨a, Ha⟩ : ∃ x, Hid (gA q n k = x) := ⟨_, rfl⟩
  obtain ⟨b, Hb⟩ : ∃ x, Hid (gE q n k = x) := ⟨_, rfl⟩
  rw [Ha.out, Hb.out]
  by_cases hx : 1000000000000000000 < x
  · have dx : decide ((1000000000000000000 : Int) < (x : Int)) = true := by simp; omega
    have hg : ¬ gs q n k ≤ 1000000000000000000 := by
      have := hx
      rw [← Hx.out] at this
      have := cO_big.1 this
      omega
    obtain rfl : a = 0 := by rw [← Ha.out]; unfold gA; rw [if_neg hg]
    obtain rfl : b = 3 := by rw [← Hb.out]; unfold gE; rw [if_neg hg]
    clear hg
    go_enter Try.func4, Try.ntmps4
    go_wp2_with (go_at_call 6; refine C.mono ?_; rintro e w1 ⟨rfl, b1⟩)
    go_ret2
    exact ⟨rfl, b1⟩
  · have dx : decide ((1000000000000000000 : Int) < (x : Int)) = false := by simp; omega
    have hg : gs q n k ≤ 1000000000000000000 := by
      rcases Nat.lt_or_ge 1000000000000000000 (gs q n k) with h | h
      · exact absurd (by rw [← Hx.out]; exact cO_big.2 h) hx
      · exact h
    have hxa : x = a := by rw [← Ha.out, ← Hx.out]; unfold gA cnG; rw [if_pos hg, cO_small hg]
    obtain rfl : b = 0 := by rw [← Hb.out]; unfold gE; rw [if_pos hg]
    subst hxa
    clear hg
    go_enter Try.func4, Try.ntmps4
    go_wp2_with (go_at_call 6; refine C.mono ?_; rintro e w1 ⟨rfl, b1⟩)
    go_ret2
    exact ⟨rfl, b1⟩
end Go.Proofs.Ytgdkfbgehbdkjaa
