/- The walks of the document's Inverse, Power, LogOf and TraceOf on a true field. -/
import Derived.Test.YtogdcjlgddleaaaDoorW49
import Derived.Test.YtogdcjlgddleaaaDoorW54
namespace Go.Proofs.YtogdcjlgddleaaaDoor.Fd
open Go.RowKit

theorem SumG (P K a b : Nat) (l : List Int) (A : Option Addr) (n c : Nat) (w : World) (hG : GoodF P K l) (ha : a < P ^ K) (hb : b < P ^ K) (s : Nat) (hs : Hid (s = addQ P K a b)) :
    Calls Tryd.prog 47 #[.agg #[.int .i64 P, .int .i64 K, .slice A n c], .int .i64 a, .int .i64 b] w fun e w' => e = .returned (.int .i64 s) ∧ Below w.heap.size w w' := by
  have h := sum_any P K a b A n c w hG.field.two (by have := hG.le61; omega) hG.field.one hG.le6 hG.le64 ha hb
  rw [← addQ_cast hG.field.two, ← hs.out] at h
  exact h

theorem pow_succ {P K : Nat} {m : Nat → Int} (hR : Ring1 P K m) (a j : Nat) : mulQ P K m (powQ P K m a j) a = powQ P K m a (j + 1) := mulQ_comm hR _ _

set_option maxHeartbeats 1000000 in
theorem power_any (P K a : Nat) (n : Int) (l : List Int) (v : Value) (w : World) (hl : Sl w v l) (hG : GoodF P K l) (ha : a < P ^ K) (hn : 0 ≤ n) (hn' : n ≤ 9223372036854775807) (s : Nat) (hs : Hid (s = powQ P K (monL l) a n.toNat)) :
    Calls Tryd.prog 48 #[.agg #[.int .i64 P, .int .i64 K, v], .int .i64 a, .int .i64 n] w fun e w' => e = .returned (.int .i64 s) ∧ Below w.heap.size w w' := by
  obtain ⟨A, ca, rfl, _⟩ := id hl
  have hR := hG.field.toRing1
  have h1q := one_lt hR
  have h64 := hG.le64
  obtain ⟨N, rfl⟩ := Int.eq_ofNat_of_zero_le hn
  rw [Int.toNat_natCast] at hs
  obtain ⟨Q, HQ⟩ : ∃ Q : Nat, Hid (Q = P ^ K) := ⟨_, rfl⟩
  have hoq : ordZ (P : Int) K = (Q : Int) := by rw [hG.ord, HQ.out]
  have hQ1 : 1 < Q := by rw [HQ.out]; exact h1q
  have hQ64 : Q ≤ 64 := by rw [HQ.out]; exact h64
  have hF0 := FB.made w P K (.slice A l.length ca)
  have hB0 : Below w.heap.size w (w.alloc (.cells #[.int .i64 P, .int .i64 K, .slice A l.length ca] 24)) := (Below.refl _ _).alloc (Nat.le_refl _) _
  by_cases h0 : N = 0
  · subst h0
    obtain rfl : s = 1 := hs.out
    go_enter Tryd.func48, Tryd.ntmps48
    go_wp2_with fail
    go_ret
    exact ⟨rfl, hB0⟩
  · have h0b : ((N : Int) == 0) = false := by simp; omega
    go_enter Tryd.func48, Tryd.ntmps48
    go_wp2_with fail
    refine (size_any P K _ _).mono ?_
    rintro e w1 ⟨rfl, hb1⟩
    have hF1 := hF0.below hb1
    have hB1 : Below w.heap.size w w1 := hB0.trans (hb1.mono hB0.size)
    clear hF0 hB0 hb1
    by_cases hbig : Q < N
    · obtain ⟨M, HM⟩ : ∃ M : Nat, Hid (M = N % (Q - 1) + (Q - 1)) := ⟨_, rfl⟩
      have HS : Hid (s = powQ P K (monL l) a M) := by
        show s = powQ P K (monL l) a M
        rw [hs.out, HM.out, HQ.out]
        exact (pow_cut hG.field ha (by rw [← HQ.out]; exact hbig)).symm
      have hM : M < 2 * Q := by
        have := Nat.mod_lt N (show 0 < Q - 1 by omega)
        rw [HM.out]; omega
      have hbb : decide ((N : Int) > (Q : Int)) = true := by simp; omega
      have hmod : (N : Int) % ((Q : Int) - 1) + ((Q : Int) - 1) = M := by
        rw [HM.out, show ((Q : Int) - 1) = ((Q - 1 : Nat) : Int) by omega]; omega
      have hw : wrap64 ((N : Int) % ((Q : Int) - 1) + ((Q : Int) - 1)) = (M : Int) := by
        rw [hmod]; unfold wrap64; omega
      go_wp2
      go_loopw [8, 9] (fun x n wr => ∃ j y : Nat, n = .int .i64 j ∧ x = .int .i64 y ∧ j ≤ M ∧ Hid (y = powQ P K (monL l) a j) ∧ FB wr w.heap.size P K (.slice A l.length ca) ∧ Below w.heap.size w wr) (fun _ n _ => (M - (intOf n).toNat))
      case atStart => exact ⟨0, 1, rfl, rfl, by omega, (rfl : 1 = powQ P K (monL l) a 0), hF1, hB1⟩
      case round =>
        clear hF1 hB1
        obtain ⟨j, y, rfl, rfl, hj, HY, hF, hB⟩ := hrel
        have hFc := hF.cells
        have hy : y < P ^ K := by rw [HY.out]; exact powQ_lt hR a j
        by_cases hlt : j < M
        · have hdec : decide ((j : Int) < (M : Int)) = true := by simp; omega
          obtain ⟨t, Ht⟩ : ∃ t, Hid (t = mulQ P K (monL l) y a) := ⟨_, rfl⟩
          have HT : Hid (t = powQ P K (monL l) a (j + 1)) := by
            show t = powQ P K (monL l) a (j + 1)
            rw [Ht.out, HY.out]; exact pow_succ hR a j
          go_wp2_with fail
          refine (TimesG P K y a l _ _ (hl.below hB) hG hy ha t Ht).mono ?_
          rintro e w2 ⟨rfl, hb2⟩
          have hF2 := hF.below hb2
          have hB2 : Below w.heap.size w w2 := hB.trans (hb2.mono hB.size)
          go_wp2
          go_roundw
          case rel => exact ⟨j + 1, t, by go_num, rfl, by omega, HT, hF2, hB2⟩
          case measure => simp [intOf]; omega
        · have hdec : decide ((j : Int) < (M : Int)) = false := by simp; omega
          obtain rfl : y = s := by rw [HY.out, HS.out, show j = M by omega]
          go_wp2
          go_ret
          exact ⟨rfl, hB⟩
    · have hbb : decide ((N : Int) > (Q : Int)) = false := by simp; omega
      have HS := hs
      go_wp2
      go_loopw [8, 9] (fun x n wr => ∃ j y : Nat, n = .int .i64 j ∧ x = .int .i64 y ∧ j ≤ N ∧ Hid (y = powQ P K (monL l) a j) ∧ FB wr w.heap.size P K (.slice A l.length ca) ∧ Below w.heap.size w wr) (fun _ n _ => (N - (intOf n).toNat))
      case atStart => exact ⟨0, 1, rfl, rfl, by omega, (rfl : 1 = powQ P K (monL l) a 0), hF1, hB1⟩
      case round =>
        clear hF1 hB1
        obtain ⟨j, y, rfl, rfl, hj, HY, hF, hB⟩ := hrel
        have hFc := hF.cells
        have hy : y < P ^ K := by rw [HY.out]; exact powQ_lt hR a j
        by_cases hlt : j < N
        · have hdec : decide ((j : Int) < (N : Int)) = true := by simp; omega
          obtain ⟨t, Ht⟩ : ∃ t, Hid (t = mulQ P K (monL l) y a) := ⟨_, rfl⟩
          have HT : Hid (t = powQ P K (monL l) a (j + 1)) := by
            show t = powQ P K (monL l) a (j + 1)
            rw [Ht.out, HY.out]; exact pow_succ hR a j
          go_wp2_with fail
          refine (TimesG P K y a l _ _ (hl.below hB) hG hy ha t Ht).mono ?_
          rintro e w2 ⟨rfl, hb2⟩
          have hF2 := hF.below hb2
          have hB2 : Below w.heap.size w w2 := hB.trans (hb2.mono hB.size)
          go_wp2
          go_roundw
          case rel => exact ⟨j + 1, t, by go_num, rfl, by omega, HT, hF2, hB2⟩
          case measure => simp [intOf]; omega
        · have hdec : decide ((j : Int) < (N : Int)) = false := by simp; omega
          obtain rfl : y = s := by rw [HY.out, HS.out, show j = N by omega]
          go_wp2
          go_ret
          exact ⟨rfl, hB⟩

set_option maxHeartbeats 1000000 in
theorem traceOf_any (P K a : Nat) (l : List Int) (v : Value) (w : World) (hl : Sl w v l) (hG : GoodF P K l) (ha : a < P ^ K) :
    Calls Tryd.prog 30 #[.agg #[.int .i64 P, .int .i64 K, v], .int .i64 a] w fun e w' => ∃ t : Nat, e = .returned (.int .i64 t) ∧ Hid (t = trQ P K (monL l) K 0 a) ∧ Below w.heap.size w w' := by
  obtain ⟨A, ca, rfl, _⟩ := id hl
  have hR := hG.field.toRing1
  have h1q := one_lt hR
  have h64 := hG.le64
  have hP61 := hG.le61
  have hP2 := hR.two
  have hK6 := hG.le6
  have hF0 := FB.made w P K (.slice A l.length ca)
  have hB0 : Below w.heap.size w (w.alloc (.cells #[.int .i64 P, .int .i64 K, .slice A l.length ca] 24)) := (Below.refl _ _).alloc (Nat.le_refl _) _
  go_enter Tryd.func30, Tryd.ntmps30
  go_wp2
  go_loopw [1, 5, 6] (fun x s i wr => ∃ j b c : Nat, i = .int .i64 j ∧ x = .int .i64 b ∧ s = .int .i64 c ∧ j ≤ K ∧ b < P ^ K ∧ c < P ^ K ∧ Hid (trQ P K (monL l) (K - j) c b = trQ P K (monL l) K 0 a) ∧ FB wr w.heap.size P K (.slice A l.length ca) ∧ Below w.heap.size w wr) (fun _ _ i _ => (K - intOf i).toNat)
  case atStart => exact ⟨0, a, 0, rfl, rfl, rfl, by omega, ha, by omega, (rfl : trQ P K (monL l) (K - 0) 0 a = trQ P K (monL l) K 0 a), hF0, hB0⟩
  case round =>
    clear hF0 hB0
    obtain ⟨j, b, c, rfl, rfl, rfl, hj, hb, hc, HI, hF, hB⟩ := hrel
    have hFc := hF.cells
    by_cases hlt : j < K
    · obtain ⟨s, Hs⟩ : ∃ s, Hid (s = addQ P K c b) := ⟨_, rfl⟩
      obtain ⟨y, Hy⟩ : ∃ y, Hid (y = powQ P K (monL l) b ((P : Int)).toNat) := ⟨_, rfl⟩
      have hs : s < P ^ K := by rw [Hs.out]; exact addQ_lt hR c b
      have hy : y < P ^ K := by rw [Hy.out]; exact powQ_lt hR b _
      have hdec : decide ((j : Int) < K) = true := by simp; omega
      have HN : Hid (trQ P K (monL l) (K - (j + 1)) s y = trQ P K (monL l) K 0 a) := by
        show trQ P K (monL l) (K - (j + 1)) s y = trQ P K (monL l) K 0 a
        rw [← HI.out, show K - j = (K - (j + 1)) + 1 by omega, Hs.out, Hy.out, Int.toNat_natCast]
        rfl
      go_wp2_with fail
      refine (SumG P K c b l _ _ _ _ hG hc hb s Hs).mono ?_
      rintro e w1 ⟨rfl, hb1⟩
      have hF1 := hF.below hb1
      have hFc1 := hF1.cells
      have hB1 : Below w.heap.size w w1 := hB.trans (hb1.mono hB.size)
      go_wp2_with fail
      refine (power_any P K b _ l _ _ (hl.below hB1) hG hb (by omega) (by omega) y Hy).mono ?_
      rintro e w2 ⟨rfl, hb2⟩
      have hF2 := hF1.below hb2
      have hB2 : Below w.heap.size w w2 := hB1.trans (hb2.mono hB1.size)
      go_wp2
      go_roundw
      case rel => exact ⟨j + 1, y, s, by go_num, rfl, rfl, by omega, hy, hs, HN, hF2, hB2⟩
      case measure => simp [intOf]; omega
    · have hdec : decide ((j : Int) < K) = false := by simp; omega
      go_wp2
      go_ret
      have h := HI.out
      rw [show K - j = 0 by omega] at h
      exact ⟨c, rfl, h, hB⟩

end Go.Proofs.YtogdcjlgddleaaaDoor.Fd
