/- The law SubsetAsks over the contracts. -/
import Derived.Test.YtmogmkdcplgfjaaVB
namespace Go.Proofs.Ytmogmkdcplgfjaa
open Go.RowKit

theorem fm_nat {n : Int} {l : List Int} (h : fmF n l = 0) : 0 ≤ n ∧ n ≤ 12 ∧ riF 4096 ((2 ^ n.toNat : Nat) : Int) l = 0 := by
  unfold fmF at h
  by_cases h1 : n < 0 ∨ 12 < n
  · rw [if_pos h1] at h; cases h
  · rw [if_neg h1] at h; exact ⟨by omega, by omega, h⟩
/-- What is known of a family that nothing is wrong with. -/
theorem fm_ok {n : Int} {l : List Int} (h : fmF n l = 0) : ∃ m : Nat, n = m ∧ m ≤ 12 ∧ (toN l).length ≤ 4096 ∧ (∀ i, i < (toN l).length → (toN l).getD i 0 < 2 ^ m) ∧ Rises (toN l) ∧ (∀ i, i < l.length → 0 ≤ l.getD i 0) := by
  obtain ⟨h1, h2, h3⟩ := fm_nat h
  obtain ⟨m, rfl⟩ : ∃ m : Nat, n = m := ⟨n.toNat, by omega⟩
  rw [Int.toNat_natCast] at h3
  obtain ⟨a, b, c, d⟩ := rises_ok h3
  exact ⟨m, rfl, by omega, a, fun i hi => by have := b i hi; omega, c, d⟩
theorem shL_len {n : Nat} (hn : n ≤ 12) (M : List Nat) : (shL n M).length ≤ 4096 := by
  unfold shL
  exact Nat.le_trans (filt_len _ _) (Nat.pow_le_pow_right (by decide) hn : 2 ^ n ≤ 2 ^ 12)
set_option maxRecDepth 100000 in
set_option maxHeartbeats 16000000 in
theorem Asks_law (FK : FCheck) (FS : FShadow) (FA : FApart) (FC : FCross) (n : Int) (l : List Int) (v : Value) (w : World) (h : Sw w v l) :
    Calls Try.prog 4 #[.int .i64 n, v] w fun e w' => e = .returned (.bool true) ∧ Below w.heap.size w w' := by
  have HS : Hid (∀ W, Below w.heap.size w W → Sw W v l) := fun W b => h.below b
  have H15 : Hid (∀ W, Below w.heap.size w W → Calls Try.prog 15 #[.int .i64 n, v] W fun e w' => e = .returned (.int .i64 (fmF n l : Int)) ∧ Below W.heap.size W w') := fun W b => FamilyFault_any n l v W (HS.out W b).1 (HS.out W b).2.2
  have H16 : Hid (∀ W, Below w.heap.size w W → Calls Try.prog 16 #[.int .i64 n, v] W fun e w' => e = .returned (.int .i64 (fmF n l : Int)) ∧ Below W.heap.size W w') := fun W b => FK n l v W (HS.out W b)
  have H17 : Hid (∀ W, Below w.heap.size w W → Calls Try.prog 17 #[.int .i64 n, v] W fun e w' => (∃ y, e = .returned (.tuple #[y, .int .i64 (fmF n l : Int)]) ∧ Wd w' y (shZ n l)) ∧ Below W.heap.size W w') := fun W b => FS n l v W (HS.out W b)
  have H18 : Hid (∀ W, Below w.heap.size w W → Calls Try.prog 18 #[.int .i64 n, v] W fun e w' => e = .returned (.tuple #[.bool (apZ n l), .int .i64 (fmF n l : Int)]) ∧ Below W.heap.size W w') := fun W b => FA n l v W (HS.out W b)
  have H19 : Hid (∀ W, Below w.heap.size w W → Calls Try.prog 19 #[.int .i64 n, v] W fun e w' => e = .returned (.tuple #[.bool (crZ n l), .int .i64 (fmF n l : Int)]) ∧ Below W.heap.size W w') := fun W b => FC n l v W (HS.out W b)
  have hB : Below w.heap.size w w := Below.refl _ _
  by_cases h0 : fmF n l = 0
  · obtain ⟨m, rfl, hm, h1, h2, h3, h4⟩ := fm_ok h0
    have e1 : shZ (m : Int) l = shL m (toN l) := by unfold shZ; rw [if_pos h0, Int.toNat_natCast]
    have e2 : apZ (m : Int) l = twB apP 0 (toN l) := by unfold apZ; rw [decide_eq_true h0, Bool.true_and]
    have e3 : crZ (m : Int) l = twB crP 1 (toN l) := by unfold crZ; rw [decide_eq_true h0, Bool.true_and]
    have h42 : ∀ i, i < (toN l).length → (toN l).getD i 0 < 4096 := fun i hi => Nat.lt_of_lt_of_le (h2 i hi) (Nat.pow_le_pow_right (by decide) hm : 2 ^ m ≤ 2 ^ 12)
    have H20 : Hid (∀ W, Below w.heap.size w W → Calls Try.prog 20 #[.int .i64 (m : Int), v] W fun e w' => (∃ y, e = .returned y ∧ Wd w' y (shL m (toN l))) ∧ Below W.heap.size W w') := fun W b => ShadowOf_any m (2 ^ m) (toN l) v W hm rfl ((HS.out W b).toN h4) h1 h2
    have H21 : Hid (∀ W, Below w.heap.size w W → Calls Try.prog 21 #[v] W fun e w' => e = .returned (.bool (twB apP 0 (toN l))) ∧ Below W.heap.size W w') := fun W b => ApartOf_any (toN l) v W ((HS.out W b).toN h4) h1 h42
    have H22 : Hid (∀ W, Below w.heap.size w W → Calls Try.prog 22 #[v] W fun e w' => e = .returned (.bool (twB crP 1 (toN l))) ∧ Below W.heap.size W w') := fun W b => CrossOf_any (toN l) v W ((HS.out W b).toN h4) h1 h42
    have hsl := shL_len hm (toN l)
    rw [h0] at H15 H16 H17 H18 H19
    rw [e1] at H17
    rw [e2] at H18
    rw [e3] at H19
    obtain ⟨L, HL⟩ : ∃ L, Hid (shL m (toN l) = L) := ⟨_, rfl⟩
    obtain ⟨p, Hp⟩ : ∃ p, Hid (twB apP 0 (toN l) = p) := ⟨_, rfl⟩
    obtain ⟨q, Hq⟩ : ∃ q, Hid (twB crP 1 (toN l) = q) := ⟨_, rfl⟩
    rw [HL.out] at H17 H20 hsl
    rw [Hp.out] at H18 H21
    rw [Hq.out] at H19 H22
    have H14 : Hid (∀ W a b, Wd W a L → Wd W b L → Calls Try.prog 14 #[a, b] W fun e w' => e = .returned (.bool true) ∧ Below W.heap.size W w') := fun W a b ha hb => same_any hsl ha hb
    have hpp : (p == p) = true := by simp
    have hqq : (q == q) = true := by simp
    clear h h0 e1 e2 e3 h1 h2 h3 h4 h42 hsl hm
    go_enter Try.func4, Try.ntmps4
    go_wp2_with (first
      | (go_at_call 15; refine (H15.out _ hB).mono ?_; rintro e wa ⟨rfl, bb⟩; replace hB := hB.trans (bb.mono hB.size))
      | (go_at_call 16; refine (H16.out _ hB).mono ?_; rintro e wa ⟨rfl, bb⟩; replace hB := hB.trans (bb.mono hB.size))
      | (go_at_call 17; refine (H17.out _ hB).mono ?_; rintro e wa ⟨⟨y1, rfl, hy1⟩, bb⟩; replace hB := hB.trans (bb.mono hB.size))
      | (go_at_call 18; refine (H18.out _ hB).mono ?_; rintro e wa ⟨rfl, bb⟩; replace hB := hB.trans (bb.mono hB.size); replace hy1 := hy1.below bb)
      | (go_at_call 19; refine (H19.out _ hB).mono ?_; rintro e wa ⟨rfl, bb⟩; replace hB := hB.trans (bb.mono hB.size); replace hy1 := hy1.below bb)
      | (go_at_call 20; refine (H20.out _ hB).mono ?_; rintro e wa ⟨⟨y2, rfl, hy2⟩, bb⟩; replace hB := hB.trans (bb.mono hB.size); replace hy1 := hy1.below bb)
      | (go_at_call 14; refine (H14.out _ _ _ hy1 hy2).mono ?_; rintro e wa ⟨rfl, bb⟩; replace hB := hB.trans (bb.mono hB.size); clear hy1 hy2)
      | (go_at_call 21; refine (H21.out _ hB).mono ?_; rintro e wa ⟨rfl, bb⟩; replace hB := hB.trans (bb.mono hB.size))
      | (go_at_call 22; refine (H22.out _ hB).mono ?_; rintro e wa ⟨rfl, bb⟩; replace hB := hB.trans (bb.mono hB.size))
      | go_in)
    cases p <;> cases q <;> (go_wp2; go_ret; exact ⟨rfl, hB⟩)
  · have e1 : shZ n l = [] := by unfold shZ; rw [if_neg h0]
    have e2 : apZ n l = false := by unfold apZ; rw [decide_eq_false h0, Bool.false_and]
    have e3 : crZ n l = false := by unfold crZ; rw [decide_eq_false h0, Bool.false_and]
    rw [e1] at H17
    rw [e2] at H18
    rw [e3] at H19
    obtain ⟨f, Hf⟩ : ∃ f, Hid (fmF n l = f) := ⟨_, rfl⟩
    rw [Hf.out] at H15 H16 H17 H18 H19 h0
    have hff : ((f : Int) != (f : Int)) = false := by simp
    have hf0 : ((f : Int) != 0) = true := by simp; omega
    clear h h0 e1 e2 e3
    go_enter Try.func4, Try.ntmps4
    go_wp2_with (first
      | (go_at_call 15; refine (H15.out _ hB).mono ?_; rintro e wa ⟨rfl, bb⟩; replace hB := hB.trans (bb.mono hB.size))
      | (go_at_call 16; refine (H16.out _ hB).mono ?_; rintro e wa ⟨rfl, bb⟩; replace hB := hB.trans (bb.mono hB.size))
      | (go_at_call 17; refine (H17.out _ hB).mono ?_; rintro e wa ⟨⟨y1, rfl, hy1⟩, bb⟩; replace hB := hB.trans (bb.mono hB.size); obtain ⟨ya, yc, rfl⟩ := hy1.len (m := 0) rfl; clear hy1)
      | (go_at_call 18; refine (H18.out _ hB).mono ?_; rintro e wa ⟨rfl, bb⟩; replace hB := hB.trans (bb.mono hB.size))
      | (go_at_call 19; refine (H19.out _ hB).mono ?_; rintro e wa ⟨rfl, bb⟩; replace hB := hB.trans (bb.mono hB.size))
      | go_in)
    go_ret
    exact ⟨rfl, hB⟩
end Go.Proofs.Ytmogmkdcplgfjaa
