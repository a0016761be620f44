/- The law SubsetRanks over the contracts. -/
import Derived.Test.YtmogmkdcplgfjaaVA
namespace Go.Proofs.Ytmogmkdcplgfjaa
open Go.RowKit

theorem unZ_len (k r : Int) : (unZ k r).length ≤ 4096 := by
  unfold unZ
  split
  · rename_i h
    rw [unS_len]
    unfold unE at h
    by_cases h2 : k < 0 ∨ 30 < k ∨ r < 0
    · rw [if_pos h2] at h; cases h
    · omega
  · exact Nat.zero_le _
set_option maxRecDepth 100000 in
set_option maxHeartbeats 16000000 in
theorem Ranks_law (FR : FRank) (FU : FUnrank) (l : List Int) (v : Value) (k r : Int) (w : World) (h : Sw w v l) (hr : r < 2 ^ 63) :
    Calls Try.prog 3 #[v, .int .i64 k, .int .i64 r] w fun e w' => e = .returned (.bool true) ∧ Below w.heap.size w w' := by
  have HS : Hid (∀ W, Below w.heap.size w W → Sw W v l) := fun W b => h.below b
  have H9 : Hid (∀ W, Below w.heap.size w W → Calls Try.prog 9 #[v] W fun e w' => e = .returned (.int .i64 (rkF l : Int)) ∧ Below W.heap.size W w') := fun W b => RankFault_any l v W (HS.out W b).1 (HS.out W b).2.2
  have H10 : Hid (∀ W, Below w.heap.size w W → Calls Try.prog 10 #[v] W fun e w' => e = .returned (.tuple #[.int .i64 (rkZ l : Int), .int .i64 (rkF l : Int)]) ∧ Below W.heap.size W w') := fun W b => FR l v W (HS.out W b)
  have H12 : Hid (∀ W, Calls Try.prog 12 #[.int .i64 k, .int .i64 r] W fun e w' => (∃ y, e = .returned (.tuple #[y, .int .i64 (unE k r : Int)]) ∧ Wd w' y (unZ k r)) ∧ Below W.heap.size W w') := fun W => FU k r W hr
  have H13 : Hid (∀ W, Calls Try.prog 13 #[.int .i64 k, .int .i64 r] W fun e w' => (∃ y, e = .returned (.tuple #[y, .int .i64 (unE k r : Int)]) ∧ Wd w' y (unZ k r)) ∧ Below W.heap.size W w') := fun W => UnrankOf_any k r W hr
  have H14 : Hid (∀ W a b, Wd W a (unZ k r) → Wd W b (unZ k r) → Calls Try.prog 14 #[a, b] W fun e w' => e = .returned (.bool true) ∧ Below W.heap.size W w') := fun W a b ha hb => same_any (unZ_len k r) ha hb
  have H11 : Hid (rkF l = 0 → rkZ l = rkS (toN l) (toN l).length ∧ ∀ W, Below w.heap.size w W → Calls Try.prog 11 #[v] W fun e w' => e = .returned (.int .i64 (rkS (toN l) (toN l).length : Int)) ∧ Below W.heap.size W w') := fun h0 => by
    obtain ⟨h1, h2, h3, h4⟩ := rises_ok h0
    refine ⟨by unfold rkZ; rw [if_pos h0], fun W b => RankOf_any (toN l) v W ((HS.out W b).toN h4) h3 h1 fun i hi => ?_⟩
    have := h2 i hi
    omega
  have HZ0 : Hid (rkF l ≠ 0 → rkZ l = 0) := fun h0 => by unfold rkZ; rw [if_neg h0]
  obtain ⟨f, Hf⟩ : ∃ f, Hid (rkF l = f) := ⟨_, rfl⟩
  obtain ⟨z, Hz⟩ : ∃ z, Hid (rkZ l = z) := ⟨_, rfl⟩
  obtain ⟨g, Hg⟩ : ∃ g, Hid (unE k r = g) := ⟨_, rfl⟩
  obtain ⟨L, HL⟩ : ∃ L, Hid (unZ k r = L) := ⟨_, rfl⟩
  rw [Hf.out] at H9 H10 H11 HZ0
  rw [Hz.out] at H10 H11 HZ0
  rw [Hg.out, HL.out] at H12 H13
  rw [HL.out] at H14
  have hff : ((f : Int) != (f : Int)) = false := by simp
  have hzz : ((z : Int) != (z : Int)) = false := by simp
  have hgg : ((g : Int) == (g : Int)) = true := by simp
  have hB : Below w.heap.size w w := Below.refl _ _
  clear h
  by_cases h0 : f = 0
  · obtain ⟨e1, H11b⟩ := H11.out h0
    rw [← e1] at H11b
    have H11c : Hid (∀ W, Below w.heap.size w W → Calls Try.prog 11 #[v] W fun e w' => e = .returned (.int .i64 (z : Int)) ∧ Below W.heap.size W w') := H11b
    have hf0 : ((f : Int) == 0) = true := by simp [h0]
    clear h0 e1 H11b
    go_enter Try.func3, Try.ntmps3
    go_wp2_with (first
      | (go_at_call 9; refine (H9.out _ hB).mono ?_; rintro e wa ⟨rfl, bb⟩; replace hB := hB.trans (bb.mono hB.size))
      | (go_at_call 10; refine (H10.out _ hB).mono ?_; rintro e wa ⟨rfl, bb⟩; replace hB := hB.trans (bb.mono hB.size))
      | (go_at_call 11; refine (H11c.out _ hB).mono ?_; rintro e wa ⟨rfl, bb⟩; replace hB := hB.trans (bb.mono hB.size))
      | (go_at_call 12; refine (H12.out _).mono ?_; rintro e wa ⟨⟨y1, rfl, hy1⟩, bb⟩; replace hB := hB.trans (bb.mono hB.size))
      | (go_at_call 13; refine (H13.out _).mono ?_; rintro e wa ⟨⟨y2, rfl, hy2⟩, bb⟩; replace hB := hB.trans (bb.mono hB.size); replace hy1 := hy1.below bb)
      | (go_at_call 14; refine (H14.out _ _ _ hy1 hy2).mono ?_; rintro e wa ⟨rfl, bb⟩; replace hB := hB.trans (bb.mono hB.size); clear hy1 hy2)
      | go_in)
    go_ret
    exact ⟨rfl, hB⟩
  · have hf0 : ((f : Int) == 0) = false := by simp; omega
    have hz0 := HZ0.out h0
    subst hz0
    clear h0
    go_enter Try.func3, Try.ntmps3
    go_wp2_with (first
      | (go_at_call 9; refine (H9.out _ hB).mono ?_; rintro e wa ⟨rfl, bb⟩; replace hB := hB.trans (bb.mono hB.size))
      | (go_at_call 10; refine (H10.out _ hB).mono ?_; rintro e wa ⟨rfl, bb⟩; replace hB := hB.trans (bb.mono hB.size))
      | (go_at_call 12; refine (H12.out _).mono ?_; rintro e wa ⟨⟨y1, rfl, hy1⟩, bb⟩; replace hB := hB.trans (bb.mono hB.size))
      | (go_at_call 13; refine (H13.out _).mono ?_; rintro e wa ⟨⟨y2, rfl, hy2⟩, bb⟩; replace hB := hB.trans (bb.mono hB.size); replace hy1 := hy1.below bb)
      | (go_at_call 14; refine (H14.out _ _ _ hy1 hy2).mono ?_; rintro e wa ⟨rfl, bb⟩; replace hB := hB.trans (bb.mono hB.size); clear hy1 hy2)
      | go_in)
    go_ret
    exact ⟨rfl, hB⟩
end Go.Proofs.Ytmogmkdcplgfjaa
