/- wordFact over the contracts. -/
import Derived.Test.YtcjkcgfohmhbcabWA
namespace Go.Proofs.Ytcjkcgfohmhbcab
open Go.RowKit

theorem bj_2_3 : bjZ 2 3 = [0, 0, 0, 1, 0, 1, 1, 1] := by decide +kernel
theorem pm_2_6 : pmZ 2 6 = 9 := by decide +kernel
theorem bf_2_3 : bfE 2 3 = 0 := by decide +kernel
theorem pe_2_6 : prE 2 6 = 0 := by decide +kernel
theorem lit_wd (w : World) : Wd (w.alloc (.cells #[.int .i64 0, .int .i64 0, .int .i64 0, .int .i64 1, .int .i64 0, .int .i64 1, .int .i64 1, .int .i64 1] 3)) (.slice (some ⟨w.heap.size, 0, none⟩) 8 8) [0, 0, 0, 1, 0, 1, 1, 1] := by
  have h : ORow (w.alloc (.cells #[.int .i64 0, .int .i64 0, .int .i64 0, .int .i64 1, .int .i64 0, .int .i64 1, .int .i64 1, .int .i64 1] 3)) w.heap.size (.slice (some ⟨w.heap.size, 0, none⟩) 8 8) [0, 0, 0, 1, 0, 1, 1, 1] := ⟨rfl, .inr ⟨w.heap.size, 8, _, rfl, Nat.le_refl _, heap_alloc_new w _, by decide, by unfold maxLen; decide, rfl, rfl⟩⟩
  exact h.own
set_option maxRecDepth 100000 in
set_option maxHeartbeats 8000000 in
theorem wordFact_any (FB : FBruijn) (FP : FPrimes) (w : World) : Calls Try.prog 5 #[] w fun e w' => e = .returned (.bool true) ∧ Below w.heap.size w w' := by
  have D22 := FB 2 3 w
  have H19 : Hid (∀ W, Calls Try.prog 7 #[.int .i64 2, .int .i64 6] W fun e w' => e = .returned (.tuple #[.int .i64 9, .int .i64 0]) ∧ Below W.heap.size W w') := fun W => by
    have := FP 2 6 W (by decide)
    rw [pm_2_6, pe_2_6] at this
    exact this
  rw [bj_2_3, bf_2_3] at D22
  have H11 : Hid (∀ W x y, Wd W x [0, 0, 0, 1, 0, 1, 1, 1] → Wd W y [0, 0, 0, 1, 0, 1, 1, 1] → Calls Try.prog 11 #[x, y] W fun e w' => e = .returned (.bool true) ∧ Below W.heap.size W w') := fun W x y hx hy => same_any (by decide) hx hy
  have hB : Below w.heap.size w w := Below.refl _ _
  go_enter Try.func5, Try.ntmps5
  go_wp2_with (first
    | (go_at_call 6; refine D22.mono ?_; rintro e w1 ⟨⟨y1, rfl, hy1⟩, bb⟩; clear D22; replace hB := hB.trans (bb.mono hB.size); obtain ⟨ya, yc, rfl⟩ := hy1.len (m := 8) rfl; have hy2 := hy1.below (balloc w1 (.cells #[.int .i64 0, .int .i64 0, .int .i64 0, .int .i64 1, .int .i64 0, .int .i64 1, .int .i64 1, .int .i64 1] 3)); have D11 := H11.out _ _ _ hy2 (lit_wd w1); replace hB := Below.next hB (balloc w1 (.cells #[.int .i64 0, .int .i64 0, .int .i64 0, .int .i64 1, .int .i64 0, .int .i64 1, .int .i64 1, .int .i64 1] 3)); clear hy1 hy2)
    | (go_at_call 11; refine D11.mono ?_; rintro e w2 ⟨rfl, bb⟩; clear D11; replace hB := Below.next hB bb; have D19 := H19.out w2)
    | (go_at_call 7; refine D19.mono ?_; rintro e w3 ⟨rfl, bb⟩; clear D19; replace hB := hB.trans (bb.mono hB.size)))
  go_ret
  exact ⟨rfl, hB⟩
end Go.Proofs.Ytcjkcgfohmhbcab
