/- subsetFact over the contracts. -/
import Derived.Test.YtmogmkdcplgfjabVP
namespace Go.Proofs.Ytmogmkdcplgfjab
open Go.RowKit


theorem ca_11_3 : caZ 11 3 = [5, 2] := by decide +kernel
theorem ce_11_3 : caE 11 3 = 0 := by decide +kernel
theorem rk_023 : rkZ [0, 2, 3] = 2 := by decide +kernel
theorem rf_023 : rkF [0, 2, 3] = 0 := by decide +kernel
theorem lit_52 (w : World) : Wd (w.alloc (.cells #[.int .i64 5, .int .i64 2] 3)) (.slice (some ⟨w.heap.size, 0, none⟩) 2 2) [5, 2] := by
  have h : ORow (w.alloc (.cells #[.int .i64 5, .int .i64 2] 3)) w.heap.size (.slice (some ⟨w.heap.size, 0, none⟩) 2 2) [5, 2] := ⟨rfl, .inr ⟨w.heap.size, 2, _, rfl, Nat.le_refl _, heap_alloc_new w _, by decide, by unfold maxLen; decide, rfl, rfl⟩⟩
  exact h.own
theorem Wd.sw {w : World} {v : Value} {M : List Nat} (h : Wd w v M) (hl : M.length ≤ 4096) : Sw w v (M.map Int.ofNat) := by
  refine ⟨h.sl, fun a n c e => ?_, by rw [List.length_map]; unfold maxLen; omega⟩
  obtain ⟨a', c', e', h0, -⟩ := h
  rw [e] at e'
  cases e'
  exact h0
theorem lit_023 (w : World) : Sw (w.alloc (.cells #[.int .i64 0, .int .i64 2, .int .i64 3] 3)) (.slice (some ⟨w.heap.size, 0, none⟩) 3 3) [0, 2, 3] := by
  have h : ORow (w.alloc (.cells #[.int .i64 0, .int .i64 2, .int .i64 3] 3)) w.heap.size (.slice (some ⟨w.heap.size, 0, none⟩) 3 3) [0, 2, 3] := ⟨rfl, .inr ⟨w.heap.size, 3, _, rfl, Nat.le_refl _, heap_alloc_new w _, by decide, by unfold maxLen; decide, rfl, rfl⟩⟩
  exact h.own.sw (by decide)
set_option maxRecDepth 100000 in
set_option maxHeartbeats 8000000 in
theorem subsetFact_any (FC : FCascade) (FR : FRank) (w : World) : Calls Try.prog 5 #[] w fun e w' => e = .returned (.bool true) ∧ Below w.heap.size w w' := by
  have D23 := FC 11 3 w
  rw [ca_11_3, ce_11_3] at D23
  have H10 : Hid (∀ W : World, Calls Try.prog 12 #[.slice (some ⟨W.heap.size, 0, none⟩) 3 3] (W.alloc (.cells #[.int .i64 0, .int .i64 2, .int .i64 3] 3)) fun e w' => e = .returned (.tuple #[.int .i64 2, .int .i64 0]) ∧ Below (W.alloc (.cells #[.int .i64 0, .int .i64 2, .int .i64 3] 3)).heap.size (W.alloc (.cells #[.int .i64 0, .int .i64 2, .int .i64 3] 3)) w') := fun W => by
    have := FR [0, 2, 3] _ _ (lit_023 W)
    rw [rk_023, rf_023] at this
    exact this
  have H14 : Hid (∀ W x y, Wd W x [5, 2] → Wd W y [5, 2] → Calls Try.prog 11 #[x, y] W fun e w' => e = .returned (.bool true) ∧ Below W.heap.size W w') := fun W x y hx hy => same_any (by decide) hx hy
  have hB : Below w.heap.size w w := Below.refl _ _
  go_enter Try.func5, Try.ntmps5
  go_wp2_with (first
    | (go_at_call 10; refine D23.mono ?_; rintro e w1 ⟨⟨y1, rfl, hy1⟩, bb⟩; clear D23; replace hB := hB.trans (bb.mono hB.size); obtain ⟨ya, yc, rfl⟩ := hy1.len (m := 2) rfl; have hy2 := hy1.below (balloc w1 (.cells #[.int .i64 5, .int .i64 2] 3)); have D14 := H14.out _ _ _ hy2 (lit_52 w1); replace hB := Below.next hB (balloc w1 (.cells #[.int .i64 5, .int .i64 2] 3)); clear hy1 hy2)
    | (go_at_call 11; refine D14.mono ?_; rintro e w2 ⟨rfl, bb⟩; clear D14; replace hB := Below.next hB bb; have D10 := H10.out w2; replace hB := Below.next hB (balloc w2 (.cells #[.int .i64 0, .int .i64 2, .int .i64 3] 3)))
    | (go_at_call 12; refine D10.mono ?_; rintro e w3 ⟨rfl, bb⟩; clear D10; replace hB := Below.next hB bb))
  go_ret
  exact ⟨rfl, hB⟩
end Go.Proofs.Ytmogmkdcplgfjab
