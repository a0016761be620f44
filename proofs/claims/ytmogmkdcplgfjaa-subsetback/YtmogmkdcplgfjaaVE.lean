/- subsetFact and the law SubsetBack over the contracts. -/
import Derived.Test.YtmogmkdcplgfjaaVP
namespace Go.Proofs.Ytmogmkdcplgfjaa
open Go.RowKit

theorem ca_11_3 : caZ 11 3 = [5, 2] := by decide +kernel
theorem ce_11_3 : caE 11 3 = 0 := by decide +kernel
theorem rk_023 : rkZ [0, 2, 3] = 2 := by decide +kernel
theorem rf_023 : rkF [0, 2, 3] = 0 := by decide +kernel
theorem lit_52 (w : World) : Wd (w.alloc (.cells #[.int .i64 5, .int .i64 2] 3)) (.slice (some ⟨w.heap.size, 0, none⟩) 2 2) [5, 2] := by
  have h : ORow (w.alloc (.cells #[.int .i64 5, .int .i64 2] 3)) w.heap.size (.slice (some ⟨w.heap.size, 0, none⟩) 2 2) [5, 2] := ⟨rfl, .inr ⟨w.heap.size, 2, _, rfl, Nat.le_refl _, heap_alloc_new w _, by decide, by unfold maxLen; decide, rfl, rfl⟩⟩
  exact h.own
theorem Wd.sw {w : World} {v : Value} {M : List Nat} (h : Wd w v M) (hl : M.length ≤ 4096) : Sw w v (M.map Int.ofNat) := by
  refine ⟨h.sl, fun a n c e => ?_, by rw [List.length_map]; unfold maxLen; omega⟩
  obtain ⟨a', c', e', h0, -⟩ := h
  rw [e] at e'
  cases e'
  exact h0
theorem lit_023 (w : World) : Sw (w.alloc (.cells #[.int .i64 0, .int .i64 2, .int .i64 3] 3)) (.slice (some ⟨w.heap.size, 0, none⟩) 3 3) [0, 2, 3] := by
  have h : ORow (w.alloc (.cells #[.int .i64 0, .int .i64 2, .int .i64 3] 3)) w.heap.size (.slice (some ⟨w.heap.size, 0, none⟩) 3 3) [0, 2, 3] := ⟨rfl, .inr ⟨w.heap.size, 3, _, rfl, Nat.le_refl _, heap_alloc_new w _, by decide, by unfold maxLen; decide, rfl, rfl⟩⟩
  exact h.own.sw (by decide)
set_option maxRecDepth 100000 in
set_option maxHeartbeats 8000000 in
theorem subsetFact_any (FC : FCascade) (FR : FRank) (w : World) : Calls Try.prog 30 #[] w fun e w' => e = .returned (.bool true) ∧ Below w.heap.size w w' := by
  have D23 := FC 11 3 w
  rw [ca_11_3, ce_11_3] at D23
  have H10 : Hid (∀ W : World, Calls Try.prog 10 #[.slice (some ⟨W.heap.size, 0, none⟩) 3 3] (W.alloc (.cells #[.int .i64 0, .int .i64 2, .int .i64 3] 3)) fun e w' => e = .returned (.tuple #[.int .i64 2, .int .i64 0]) ∧ Below (W.alloc (.cells #[.int .i64 0, .int .i64 2, .int .i64 3] 3)).heap.size (W.alloc (.cells #[.int .i64 0, .int .i64 2, .int .i64 3] 3)) w') := fun W => by
    have := FR [0, 2, 3] _ _ (lit_023 W)
    rw [rk_023, rf_023] at this
    exact this
  have H14 : Hid (∀ W x y, Wd W x [5, 2] → Wd W y [5, 2] → Calls Try.prog 14 #[x, y] W fun e w' => e = .returned (.bool true) ∧ Below W.heap.size W w') := fun W x y hx hy => same_any (by decide) hx hy
  have hB : Below w.heap.size w w := Below.refl _ _
  go_enter Try.func30, Try.ntmps30
  go_wp2_with (first
    | (go_at_call 23; refine D23.mono ?_; rintro e w1 ⟨⟨y1, rfl, hy1⟩, bb⟩; clear D23; replace hB := hB.trans (bb.mono hB.size); obtain ⟨ya, yc, rfl⟩ := hy1.len (m := 2) rfl; have hy2 := hy1.below (balloc w1 (.cells #[.int .i64 5, .int .i64 2] 3)); have D14 := H14.out _ _ _ hy2 (lit_52 w1); replace hB := Below.next hB (balloc w1 (.cells #[.int .i64 5, .int .i64 2] 3)); clear hy1 hy2)
    | (go_at_call 14; refine D14.mono ?_; rintro e w2 ⟨rfl, bb⟩; clear D14; replace hB := Below.next hB bb; have D10 := H10.out w2; replace hB := Below.next hB (balloc w2 (.cells #[.int .i64 0, .int .i64 2, .int .i64 3] 3)))
    | (go_at_call 10; refine D10.mono ?_; rintro e w3 ⟨rfl, bb⟩; clear D10; replace hB := Below.next hB bb))
  go_ret
  exact ⟨rfl, hB⟩
theorem back_is {l : List Int} (h0 : rkF l = 0) : unE (l.length : Int) (rkZ l : Int) = 0 ∧ unZ (l.length : Int) (rkZ l : Int) = toN l ∧ rkZ l ≤ 2305843009213693952 := by
  obtain ⟨h1, h2, h3, h4⟩ := rises_ok h0
  have h60 : ∀ i, i < (toN l).length → (toN l).getD i 0 ≤ 60 := fun i hi => by have := h2 i hi; omega
  have e1 : rkZ l = rkS (toN l) (toN l).length := by unfold rkZ; rw [if_pos h0]
  have hl := toN_len l
  have hsm := rkS_small h3 h60 (toN l).length (Nat.le_refl _)
  have hlt : rkS (toN l) (toN l).length < chs 61 (toN l).length := by
    rcases Nat.eq_zero_or_pos (toN l).length with e | e
    · rw [e, chs_zero]; exact Nat.one_pos
    · have := rkS_lt h3 ((toN l).length - 1) (by omega)
      rw [show (toN l).length - 1 + 1 = (toN l).length by omega] at this
      exact Nat.lt_of_lt_of_le this (chs_mono (by have := h60 ((toN l).length - 1) (by omega); omega) _)
  have eE : unE (l.length : Int) (rkZ l : Int) = 0 := by
    unfold unE
    rw [if_neg (by omega), Int.toNat_natCast, ← hl, e1, if_neg (by omega)]
  refine ⟨eE, ?_, by rw [e1]; exact hsm⟩
  unfold unZ
  rw [if_pos eE, Int.toNat_natCast, Int.toNat_natCast, ← hl, e1, unS_back h3 _ (Nat.le_refl _) 61 fun j hj => by have := h60 j hj; omega]
  exact List.take_of_length_le (Nat.le_refl _)
set_option maxRecDepth 100000 in
set_option maxHeartbeats 16000000 in
theorem Back_law (FC : FCascade) (FR : FRank) (FU : FUnrank) (l : List Int) (v : Value) (w : World) (h : Sw w v l) :
    Calls Try.prog 6 #[v] w fun e w' => e = .returned (.bool true) ∧ Below w.heap.size w w' := by
  have HS : Hid (∀ W, Below w.heap.size w W → Sw W v l) := fun W b => h.below b
  have H30 : Hid (∀ W, Calls Try.prog 30 #[] W fun e w' => e = .returned (.bool true) ∧ Below W.heap.size W w') := fun W => subsetFact_any FC FR W
  have H10 : Hid (∀ W, Below w.heap.size w W → Calls Try.prog 10 #[v] W fun e w' => e = .returned (.tuple #[.int .i64 (rkZ l : Int), .int .i64 (rkF l : Int)]) ∧ Below W.heap.size W w') := fun W b => FR l v W (HS.out W b)
  have hB : Below w.heap.size w w := Below.refl _ _
  by_cases h0 : rkF l = 0
  · obtain ⟨e1, e2, e3⟩ := back_is h0
    obtain ⟨h1, h2, h3, h4⟩ := rises_ok h0
    have H12 : Hid (∀ W, Calls Try.prog 12 #[.int .i64 (l.length : Int), .int .i64 (rkZ l : Int)] W fun e w' => (∃ y, e = .returned (.tuple #[y, .int .i64 0]) ∧ Wd w' y (toN l)) ∧ Below W.heap.size W w') := fun W => by
      have := FU (l.length : Int) (rkZ l : Int) W (by omega)
      rw [e1, e2] at this
      exact this
    have H14 : Hid (∀ W b, Below w.heap.size w W → Wd W b (toN l) → Calls Try.prog 14 #[v, b] W fun e w' => e = .returned (.bool true) ∧ Below W.heap.size W w') := fun W b bW hb => same_any (by omega) ((HS.out W bW).toN h4) hb
    obtain ⟨a, n, c, hv, hn⟩ : ∃ a n c, v = .slice a n c ∧ l.length = n := by obtain ⟨⟨a, c, e, _⟩, _⟩ := h; exact ⟨a, _, c, e, rfl⟩
    rw [h0] at H10
    obtain ⟨z, Hz⟩ : ∃ z, Hid (rkZ l = z) := ⟨_, rfl⟩
    rw [Hz.out] at H10 H12
    rw [hn] at H12
    subst hv
    clear h h0 e1 e2 e3 h1 h2 h3 h4 hn
    go_enter Try.func6, Try.ntmps6
    go_wp2_with (first
      | (go_at_call 30; refine (H30.out _).mono ?_; rintro e wa ⟨rfl, bb⟩; replace hB := hB.trans (bb.mono hB.size))
      | (go_at_call 10; refine (H10.out _ hB).mono ?_; rintro e wa ⟨rfl, bb⟩; replace hB := hB.trans (bb.mono hB.size))
      | (go_at_call 12; refine (H12.out _).mono ?_; rintro e wa ⟨⟨y1, rfl, hy1⟩, bb⟩; replace hB := hB.trans (bb.mono hB.size))
      | (go_at_call 14; refine (H14.out _ _ hB hy1).mono ?_; rintro e wa ⟨rfl, bb⟩; replace hB := hB.trans (bb.mono hB.size); clear hy1)
      | go_in)
    go_ret
    exact ⟨rfl, hB⟩
  · obtain ⟨f, Hf⟩ : ∃ f, Hid (rkF l = f) := ⟨_, rfl⟩
    obtain ⟨z, Hz⟩ : ∃ z, Hid (rkZ l = z) := ⟨_, rfl⟩
    rw [Hf.out, Hz.out] at H10
    rw [Hf.out] at h0
    have hf0 : ((f : Int) != 0) = true := by simp; omega
    clear h h0
    go_enter Try.func6, Try.ntmps6
    go_wp2_with (first
      | (go_at_call 30; refine (H30.out _).mono ?_; rintro e wa ⟨rfl, bb⟩; replace hB := hB.trans (bb.mono hB.size))
      | (go_at_call 10; refine (H10.out _ hB).mono ?_; rintro e wa ⟨rfl, bb⟩; replace hB := hB.trans (bb.mono hB.size))
      | go_in)
    go_ret
    exact ⟨rfl, hB⟩
end Go.Proofs.Ytmogmkdcplgfjaa
