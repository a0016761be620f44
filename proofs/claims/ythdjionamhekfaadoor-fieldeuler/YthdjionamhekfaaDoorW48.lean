/- The walks of pow, Inv and Pow; sums and products of a true field's elements. -/
import Derived.Test.YthdjionamhekfaaDoorW23
import Derived.Test.YthdjionamhekfaaDoorL5
import Derived.Test.YthdjionamhekfaaDoorAlgE
namespace Go.Proofs.YthdjionamhekfaaDoor
open Go.RowKit

theorem mulQ_cast {P K : Nat} {m : Nat → Int} (hR : Ring1 P K m) (a b : Nat) : ((mulQ P K m a b : Nat) : Int) = hor (redN m K P K (mulN (digF a P) (digF b P) P K K)) P K K := by
  unfold mulQ
  exact Int.toNat_of_nonneg (hor_bd (k := K) (show (2 : Int) ≤ P by have := hR.two; omega) (mulQ_in hR a b) K).1
theorem addQ_cast {P K : Nat} (hP : 2 ≤ P) (a b : Nat) : ((addQ P K a b : Nat) : Int) = hor (plusF (digF a P) (digF b P) P) P K K := by
  unfold addQ
  exact Int.toNat_of_nonneg (hor_bd (k := K) (show (2 : Int) ≤ P by omega) (plusF_in _ _ _ (by omega)) K).1
theorem mul_Q (P K a b : Nat) (Q : Int) (m : Nat → Int) (w : World) (hR : Ring1 P K m) (hP' : P ≤ 64) (hK' : K ≤ 6) (hPK : P ^ K ≤ 64) (ha : a < P ^ K) (hb : b < P ^ K) (s : Nat) (hs : Hid (s = mulQ P K m a b)) :
    Calls Tryd.prog 21 #[.agg (ringRow P K Q m), .int .i64 a, .int .i64 b] w fun e w' => e = .returned (.int .i64 s) ∧ Below w.heap.size w w' := by
  have h := mul_any P K a b Q m w hR.two hP' hR.one hK' hPK ha hb hR.low hR.top
  rw [prod_same hR.two hR.one hK' ha hb, ← mulQ_cast hR, ← hs.out] at h
  exact h

set_option maxHeartbeats 1000000 in
theorem pow_any (P K a : Nat) (n Q : Int) (m : Nat → Int) (w : World) (hR : Ring1 P K m) (hP' : P ≤ 64) (hK' : K ≤ 6) (hPK : P ^ K ≤ 64) (ha : a < P ^ K) (hn : 0 ≤ n) (hn' : n ≤ 9223372036854775807) (s : Nat) (hs : Hid (s = powQ P K m a n.toNat)) :
    Calls Tryd.prog 16 #[.agg (ringRow P K Q m), .int .i64 a, .int .i64 n] w fun e w' => e = .returned (.int .i64 s) ∧ Below w.heap.size w w' := by
  obtain ⟨fs, hu⟩ := und53
  have hone := one_lt hR
  go_enter Tryd.func16, Tryd.ntmps16
  go_wp2
  go_loopw [1, 2, 7] (fun x y o wr => ∃ (b c : Nat) (j : Int), x = .int .i64 b ∧ y = .int .i64 j ∧ o = .int .i64 c ∧ 0 ≤ j ∧ j ≤ 9223372036854775807 ∧ b < P ^ K ∧ c < P ^ K ∧ Hid (mulQ P K m c (powQ P K m b j.toNat) = s) ∧ RB wr w.heap.size P K Q m ∧ Below w.heap.size w wr) (fun _ y _ _ => (intOf y).toNat)
  case atStart =>
    refine ⟨a, 1, n, rfl, rfl, rfl, hn, hn', ha, hone, ?_, RB.made w P K Q m, (Below.refl _ _).alloc (Nat.le_refl _) _⟩
    show mulQ P K m 1 (powQ P K m a n.toNat) = s
    rw [one_mulQ hR (powQ_lt hR a _), hs.out]
  case round =>
    obtain ⟨b, c, j, rfl, rfl, rfl, hj, hj', hb, hc, HI, hRB, hB⟩ := hrel
    by_cases hlt : 0 < j
    · have hq0 : 0 ≤ j / 2 := by omega
      have hq1 : j / 2 < j := by omega
      have hw : wrap64 (j.tdiv 2) = j / 2 := by rw [Int.tdiv_eq_ediv_of_nonneg hj]; unfold wrap64; omega
      obtain ⟨bb, Hbb⟩ : ∃ x, Hid (x = mulQ P K m b b) := ⟨_, rfl⟩
      have hbb : bb < P ^ K := by rw [Hbb.out]; exact mulQ_lt hR b b
      have HSQ : Hid (∀ k, powQ P K m bb k = powQ P K m b (2 * k)) := by
        intro k
        have e : bb = powQ P K m b 2 := by
          rw [Hbb.out]
          show _ = mulQ P K m b (powQ P K m b 1)
          rw [powQ_first hR hb]
        rw [e, powQ_mul hR]
      by_cases hodd : j % 2 = 1
      · have hb1 : (j % 2 == 1) = true := by simpa using hodd
        obtain ⟨cb, Hcb⟩ : ∃ x, Hid (x = mulQ P K m c b) := ⟨_, rfl⟩
        have hcb : cb < P ^ K := by rw [Hcb.out]; exact mulQ_lt hR c b
        have HN : Hid (mulQ P K m cb (powQ P K m bb (j / 2).toNat) = s) := by
          show mulQ P K m cb (powQ P K m bb (j / 2).toNat) = s
          rw [HSQ.out, Hcb.out, mulQ_assoc hR, ← HI.out]
          rw [show j.toNat = 2 * (j / 2).toNat + 1 by omega]
          rfl
        clear hodd
        go_wp2_with (first
          | (refine wpList_load_row rfl 39 _ rfl w.heap.size rfl 39 _ (0, 0) _ hRB hu rfl (inf53 _ _ _ _) ?_))
        refine (mul_Q P K c b Q m _ hR hP' hK' hPK hc hb cb Hcb).mono ?_
        rintro e w1 ⟨rfl, hb1⟩
        have hRB1 := hRB.below hb1
        have hB1 : Below w.heap.size w w1 := hB.trans (hb1.mono hB.size)
        go_wp2_with (first
          | (refine wpList_load_row rfl 39 _ rfl w.heap.size rfl 39 _ (0, 0) _ hRB1 hu rfl (inf53 _ _ _ _) ?_))
        refine (mul_Q P K b b Q m _ hR hP' hK' hPK hb hb bb Hbb).mono ?_
        rintro e w2 ⟨rfl, hb2⟩
        have hRB2 := hRB1.below hb2
        have hB2 : Below w.heap.size w w2 := hB1.trans (hb2.mono hB1.size)
        go_wp2
        go_roundw
        case rel => exact ⟨bb, cb, j / 2, rfl, rfl, rfl, hq0, by omega, hbb, hcb, HN, hRB2, hB2⟩
        case measure => simp [intOf]; omega
      · have hb1 : (j % 2 == 1) = false := by simpa using hodd
        have HN : Hid (mulQ P K m c (powQ P K m bb (j / 2).toNat) = s) := by
          show mulQ P K m c (powQ P K m bb (j / 2).toNat) = s
          rw [HSQ.out, ← HI.out, show 2 * (j / 2).toNat = j.toNat by omega]
        clear hodd
        go_wp2_with (first
          | (refine wpList_load_row rfl 39 _ rfl w.heap.size rfl 39 _ (0, 0) _ hRB hu rfl (inf53 _ _ _ _) ?_))
        refine (mul_Q P K b b Q m _ hR hP' hK' hPK hb hb bb Hbb).mono ?_
        rintro e w2 ⟨rfl, hb2⟩
        have hRB2 := hRB.below hb2
        have hB2 : Below w.heap.size w w2 := hB.trans (hb2.mono hB.size)
        go_wp2
        go_roundw
        case rel => exact ⟨bb, c, j / 2, rfl, rfl, rfl, hq0, by omega, hbb, hc, HN, hRB2, hB2⟩
        case measure => simp [intOf]; omega
    · have hc' : c = s := by
        have h := HI.out
        rw [show j.toNat = 0 by omega] at h
        show c = s
        rw [← h]
        exact (mulQ_one hR hc).symm
      subst hc'
      go_wp2
      go_ret
      exact ⟨rfl, hB⟩

end Go.Proofs.YthdjionamhekfaaDoor
