/- The walk of the document's Designs. -/
import Derived.Test.YtamdpcajfgbagaaDLi
namespace Go.Proofs.Ytamdpcajfgbagaa
open Go.RowKit

set_option maxHeartbeats 4000000 in
theorem Designs_any (p q : Int) (ls ms : List (List Int)) (v x : Value) (w : World) (hv : Rw w v ls) (hx : Rw w x ms) (hl : ls.length ≤ maxLen) (hm : ms.length ≤ maxLen) (hll : ∀ l ∈ ls, l.length ≤ maxLen) (hml : ∀ l ∈ ms, l.length ≤ maxLen) :
    Calls Try.prog 13 #[.agg #[.int .i64 p, v], .agg #[.int .i64 q, x]] w fun e w' => ∃ b : Bool, e = .returned (.bool b) ∧ (b = true ↔ p = q ∧ ls = ms) ∧ Below w.heap.size w w' := by
  obtain ⟨w1, Hw1⟩ : ∃ w1, Hid (w1 = (w.alloc (.cells #[.int .i64 p, v] 33)).alloc (.cells #[.int .i64 q, x] 33)) := ⟨_, rfl⟩
  have hB0 : Below w.heap.size w w1 := by rw [Hw1.out]; exact Below.next (balloc _ _) (balloc _ _)
  have hc : ∀ W, Below w1.heap.size w1 W → (W.cell? ⟨w.heap.size, 0, none⟩ = some (.int .i64 p) ∧ W.cell? ⟨w.heap.size, 1, none⟩ = some v) ∧ (W.cell? ⟨w.heap.size + 1, 0, none⟩ = some (.int .i64 q) ∧ W.cell? ⟨w.heap.size + 1, 1, none⟩ = some x) := fun W b => by
    rw [Hw1.out] at b
    have h1 := des_box p v w W (Below.next (balloc _ _) b)
    have h2 := des_box q x (w.alloc (.cells #[.int .i64 p, v] 33)) W b
    rw [show (w.alloc (.cells #[.int .i64 p, v] 33)).heap.size = w.heap.size + 1 by simp] at h2
    exact ⟨h1, h2⟩
  have HC : Hid (∀ W, Below w1.heap.size w1 W → (W.cell? ⟨w.heap.size, 0, none⟩ = some (.int .i64 p) ∧ W.cell? ⟨w.heap.size, 1, none⟩ = some v) ∧ (W.cell? ⟨w.heap.size + 1, 0, none⟩ = some (.int .i64 q) ∧ W.cell? ⟨w.heap.size + 1, 1, none⟩ = some x)) := hc
  have CL := Lists_any ls ms v x w1 (hv.below hB0) (hx.below hB0) hl hm hll hml
  obtain ⟨⟨c0, c1⟩, c2, c3⟩ := hc _ (Below.refl _ _)
  have HB0 : Hid (Below w.heap.size w w1) := hB0
  obtain ⟨va, vl, vc, rfl⟩ : ∃ a n c, v = .slice a n c := by obtain ⟨q, q', h, _⟩ := hv; exact ⟨_, _, _, h⟩
  obtain ⟨xa, xl, xc, rfl⟩ : ∃ a n c, x = .slice a n c := by obtain ⟨q, q', h, _⟩ := hx; exact ⟨_, _, _, h⟩
  rw [Hw1.out] at c0 c1 c2 c3
  clear hv hx hl hm hll hml hc hB0
  by_cases hpq : p = q
  · subst hpq
    have e1 : (p == p) = true := by simp
    go_enter Try.func13, Try.ntmps13
    go_wp2_with (go_at_call 24; rw [← Hw1.out]; refine CL.mono ?_; rintro e w2 ⟨b, rfl, hb, b2⟩; have HB : Hid (b = true ↔ ls = ms) := hb; obtain ⟨⟨d0, d1⟩, d2, d3⟩ := HC.out _ b2; clear CL hb c0 c1 c2 c3)
    go_ret
    exact ⟨b, rfl, ⟨fun h => ⟨by trivial, HB.out.1 h⟩, fun h => HB.out.2 h.2⟩, Below.next HB0.out b2⟩
  · have e1 : (p == q) = false := beq_eq_false_iff_ne.2 hpq
    have HN : Hid (p ≠ q) := hpq
    clear hpq
    go_enter Try.func13, Try.ntmps13
    go_wp2_with (go_at_call 24; rw [← Hw1.out]; refine CL.mono ?_; rintro e w2 ⟨b, rfl, hb, b2⟩; obtain ⟨⟨d0, d1⟩, d2, d3⟩ := HC.out _ b2; clear CL hb c0 c1 c2 c3)
    go_ret
    exact ⟨false, rfl, ⟨fun h => (by cases h), fun h => (HN.out h.1).elim⟩, Below.next HB0.out b2⟩
end Go.Proofs.Ytamdpcajfgbagaa
