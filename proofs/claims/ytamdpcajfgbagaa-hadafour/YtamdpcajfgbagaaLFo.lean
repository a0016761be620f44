/- The law HadaFour. -/
import Derived.Test.YtamdpcajfgbagaaH5
namespace Go.Proofs.Ytamdpcajfgbagaa
open Go.RowKit

theorem side_four {n : Nat} {L : List Int} (G : GoodH n L) : n = 1 ∨ n = 2 ∨ n % 4 = 0 := by
  have := G.pos
  by_cases h : 3 ≤ n
  · exact .inr (.inr (G.had.four h))
  · omega
theorem best_L {n : Nat} {L : List Int} (G : GoodH n L) : smL L * smL L ≤ (n : Int) * n * n ∧ -576 ≤ smL L ∧ smL L ≤ 576 := by
  have hz : n * n ≤ 576 := Nat.le_trans (Nat.mul_le_mul G.le G.le) (by decide)
  refine ⟨?_, ?_⟩
  · rw [smL_exc G.len]; exact G.had.best
  · have h := sm_abs (n := n * n) fun i hi => G.at hi
    have e : smL L = sm (n * n) fun j => L.getD j 0 := by unfold smL; rw [G.len]
    rw [e]; omega
set_option maxHeartbeats 4000000 in
theorem Four_bad (s : Int) (L : List Int) (v : Value) (w : World) (hv : Sl w v L) (hll : L.length ≤ maxLen) (hz : hF s L ≠ 0) :
    Calls Try.prog 4 #[.agg #[.int .i64 s, v]] w fun e w' => e = .returned (.bool true) ∧ Below w.heap.size w w' := by
  have b0 := balloc w (.cells #[.int .i64 s, v] 24)
  have C0 := hadaFact_any (w.alloc (.cells #[.int .i64 s, v] 24))
  have C : Hid (∀ W, Below w.heap.size w W → Calls Try.prog 8 #[.agg #[.int .i64 s, v]] W fun e w' => e = .returned (.int .i64 (hF s L : Int)) ∧ Below W.heap.size W w') := fun W b => Check_any s L v W (hv.below b) hll
  obtain ⟨u, Hu⟩ : ∃ u, Hid (hF s L = u) := ⟨_, rfl⟩
  rw [Hu.out] at C hz
  have hne : ((u : Int) != 0) = true := by simp; omega
  clear hz
  obtain ⟨va, vn, vc, rfl⟩ : ∃ a n c, v = .slice a n c := by obtain ⟨a, c, rfl, _⟩ := hv; exact ⟨_, _, _, rfl⟩
  clear hv
  go_enter Try.func4, Try.ntmps4
  go_wp2_with (first
    | (go_at_call 16; refine C0.mono ?_; rintro e w1 ⟨rfl, b1⟩; clear C0; obtain ⟨x0, x1⟩ := sq_box _ _ _ _ b1; have B1 := Below.next b0 b1; have D := C.out _ B1; clear C)
    | (go_at_call 8; refine D.mono ?_; rintro e w2 ⟨rfl, b2⟩; clear D))
  go_ret
  exact ⟨rfl, Below.next B1 b2⟩
set_option maxHeartbeats 8000000 in
theorem Four_ok (n : Nat) (L : List Int) (v : Value) (w : World) (hv : Sl w v L) (G : GoodH n L) :
    Calls Try.prog 4 #[.agg #[.int .i64 (n : Int), v]] w fun e w' => e = .returned (.bool true) ∧ Below w.heap.size w w' := by
  have hz99 : n * n ≤ 999 := Nat.le_trans (Nat.mul_le_mul G.le G.le) (by decide)
  have hml : L.length ≤ maxLen := by rw [G.len]; unfold maxLen; omega
  have b0 := balloc w (.cells #[.int .i64 (n : Int), v] 24)
  have C0 := hadaFact_any (w.alloc (.cells #[.int .i64 (n : Int), v] 24))
  have C : Hid (∀ W, Below w.heap.size w W → Calls Try.prog 8 #[.agg #[.int .i64 (n : Int), v]] W fun e w' => e = .returned (.int .i64 0) ∧ Below W.heap.size W w') := fun W b => by
    have h := Check_any n L v W (hv.below b) hml
    rw [hF_good G] at h
    exact h
  have E : Hid (∀ W, Below w.heap.size w W → Calls Try.prog 10 #[.agg #[.int .i64 (n : Int), v]] W fun e w' => e = .returned (.tuple #[.int .i64 (smL L), .int .i64 0]) ∧ Below W.heap.size W w') := fun W b => Excess_ok n L v W (hv.below b) G
  obtain ⟨hb, hX1, hX2⟩ := best_L G
  have h4 := side_four G
  have hle := G.le
  obtain ⟨X, HX⟩ : ∃ X, Hid (smL L = X) := ⟨_, rfl⟩
  rw [HX.out] at E hb hX1 hX2
  have hY0 := sq_nonneg X
  have hY2 : X * X ≤ 331776 := by
    have h1 : ((n * n * n : Nat) : Int) = (n : Int) * n * n := by simp
    have h2 : n * n * n ≤ 999 * 24 := Nat.mul_le_mul hz99 hle
    have h3 : (n : Int) * n * n ≤ 23976 := by rw [← h1]; omega
    omega
  obtain ⟨Y, hY⟩ : ∃ Y, X * X = Y := ⟨_, rfl⟩
  rw [hY] at hb hY0 hY2
  obtain ⟨z, hz⟩ : ∃ z : Nat, n * n = z := ⟨_, rfl⟩
  have hzz : (n : Int) * (n : Int) = (z : Int) := by rw [← hz]; simp
  rw [hz] at hz99
  obtain ⟨q, hq⟩ : ∃ q : Nat, z * n = q := ⟨_, rfl⟩
  have hqq : (z : Int) * (n : Int) = (q : Int) := by rw [← hq]; simp
  have hq99 : q ≤ 99999 := by rw [← hq]; exact Nat.le_trans (Nat.mul_le_mul hz99 hle) (by decide)
  rw [hzz, hqq] at hb
  have hd : decide (Y ≤ (q : Int)) = true := decide_eq_true hb
  obtain ⟨va, vn, vc, rfl⟩ : ∃ a n c, v = .slice a n c := by obtain ⟨a, c, rfl, _⟩ := hv; exact ⟨_, _, _, rfl⟩
  have HB : Hid (Below w.heap.size w (w.alloc (.cells #[.int .i64 (n : Int), .slice va vn vc] 24))) := b0
  clear hv G hz hq hb hml b0
  rcases h4 with h4 | h4 | h4
  · have n1 : ((n : Int) != 1) = false := by simp; omega
    clear h4
    go_enter Try.func4, Try.ntmps4
    go_wp2_with (first
      | (go_at_call 16; refine C0.mono ?_; rintro e w1 ⟨rfl, b1⟩; clear C0; obtain ⟨x0, x1⟩ := sq_box _ _ _ _ b1; have B1 := Below.next HB.out b1; have D := C.out _ B1; clear C)
      | (go_at_call 8; refine D.mono ?_; rintro e w2 ⟨rfl, b2⟩; clear D x0 x1; obtain ⟨x0, x1⟩ := sq_box _ _ _ _ (Below.next b1 b2); have B2 := Below.next B1 b2; have D := E.out _ B2; clear E)
      | (go_at_call 10; refine D.mono ?_; rintro e w3 ⟨rfl, b3⟩; clear D))
    go_ret
    exact ⟨rfl, Below.next B2 b3⟩
  · have n1 : ((n : Int) != 1) = true := by simp; omega
    have n2 : ((n : Int) != 2) = false := by simp; omega
    clear h4
    go_enter Try.func4, Try.ntmps4
    go_wp2_with (first
      | (go_at_call 16; refine C0.mono ?_; rintro e w1 ⟨rfl, b1⟩; clear C0; obtain ⟨x0, x1⟩ := sq_box _ _ _ _ b1; have B1 := Below.next HB.out b1; have D := C.out _ B1; clear C)
      | (go_at_call 8; refine D.mono ?_; rintro e w2 ⟨rfl, b2⟩; clear D x0 x1; obtain ⟨x0, x1⟩ := sq_box _ _ _ _ (Below.next b1 b2); have B2 := Below.next B1 b2; have D := E.out _ B2; clear E)
      | (go_at_call 10; refine D.mono ?_; rintro e w3 ⟨rfl, b3⟩; clear D))
    go_ret
    exact ⟨rfl, Below.next B2 b3⟩
  · have n1 : ((n : Int) != 1) = true := by simp; omega
    have n2 : ((n : Int) != 2) = true := by simp; omega
    have m1 : (n : Int) % 4 = 0 := by omega
    have m2 : (n : Int).tmod 4 = 0 := by rw [Int.tmod_eq_emod_of_nonneg (by omega)]; exact m1
    clear h4
    go_enter Try.func4, Try.ntmps4
    go_wp2_with (first
      | (go_at_call 16; refine C0.mono ?_; rintro e w1 ⟨rfl, b1⟩; clear C0; obtain ⟨x0, x1⟩ := sq_box _ _ _ _ b1; have B1 := Below.next HB.out b1; have D := C.out _ B1; clear C)
      | (go_at_call 8; refine D.mono ?_; rintro e w2 ⟨rfl, b2⟩; clear D x0 x1; obtain ⟨x0, x1⟩ := sq_box _ _ _ _ (Below.next b1 b2); have B2 := Below.next B1 b2; have D := E.out _ B2; clear E)
      | (go_at_call 10; refine D.mono ?_; rintro e w3 ⟨rfl, b3⟩; clear D))
    go_ret
    exact ⟨rfl, Below.next B2 b3⟩
theorem Four_any (s : Int) (L : List Int) (v : Value) (w : World) (hv : Sl w v L) (hll : L.length ≤ maxLen) :
    Calls Try.prog 4 #[.agg #[.int .i64 s, v]] w fun e w' => e = .returned (.bool true) ∧ Below w.heap.size w w' := by
  by_cases hz : hF s L = 0
  · obtain ⟨n, rfl, G⟩ := hF_ok hz
    exact Four_ok n L v w hv G
  · exact Four_bad s L v w hv hll hz
end Go.Proofs.Ytamdpcajfgbagaa
