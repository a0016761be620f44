/- The law FieldSums, walked: sums and products of any two are the document's, errors and all. -/
import Derived.Test.YtgbkfkhjfbkidaaDoorW23
namespace Go.Proofs.YtgbkfkhjfbkidaaDoor
open Go.RowKit

theorem open_err {p k : Int} {l es : List Int} {z ze : Int} (hF : FaultIs p k l ze) (h0 : ze ≠ 0) (h : OpenIs p k l es z) : z = ze := by
  rcases h with ⟨_, h⟩ | ⟨h, _, _⟩ | ⟨h, _, _⟩
  · exact h.one hF
  · exact absurd (hF.one h) h0
  · exact absurd (hF.one h) h0
theorem open_in {p k : Int} {l es : List Int} {z : Int} (hF : FaultIs p k l 0) (hi : inL (ordZ p k) es) (h : OpenIs p k l es z) : z = 0 := by
  rcases h with ⟨h0, h⟩ | ⟨_, h, _⟩ | ⟨_, _, h⟩
  · exact absurd (h.one hF) h0
  · exact absurd hi h
  · exact h
theorem open_out {p k : Int} {l es : List Int} {z : Int} (hF : FaultIs p k l 0) (hi : ¬ inL (ordZ p k) es) (h : OpenIs p k l es z) : z = 1 := by
  rcases h with ⟨h0, h⟩ | ⟨_, _, h⟩ | ⟨_, h, _⟩
  · exact absurd (h.one hF) h0
  · exact h
  · exact absurd h hi
theorem inB_iff (q a : Int) : inB q a = true ↔ 0 ≤ a ∧ a < q := by simp [inB]
theorem inL_pair (q a b : Int) : inL q [a, b] ↔ inB q a = true ∧ inB q b = true := by
  rw [inB_iff, inB_iff]
  constructor
  · intro h
    exact ⟨h 0 (by simp), h 1 (by simp)⟩
  · rintro ⟨h1, h2⟩ j hj
    have : j = 0 ∨ j = 1 := by simp at hj; omega
    rcases this with rfl | rfl
    · exact h1
    · exact h2

set_option maxHeartbeats 600000 in
theorem law5_any (p k a b : Int) (l : List Int) (v : Value) (w : World) (hT : Tab w) (hl : Sl w v l) (hll : l.length ≤ maxLen) :
    Calls Tryd.prog 5 #[.agg #[.int .i64 p, .int .i64 k, v], .int .i64 a, .int .i64 b] w fun e w' => e = .returned (.bool true) ∧ Below w.heap.size w w' := by
  obtain ⟨A, ca, rfl, _⟩ := id hl
  have hF0 := FB.made w p k (.slice A l.length ca)
  have hB0 : Below w.heap.size w (w.alloc (.cells #[.int .i64 p, .int .i64 k, .slice A l.length ca] 24)) := (Below.refl _ _).alloc (Nat.le_refl _) _
  go_enter Tryd.func5, Tryd.ntmps5
  go_wp2_with fail
  refine (fault_any p k l _ _ (hl.below hB0)).mono ?_
  rintro e w1 ⟨ze, rfl, hze, hb1⟩
  have hF1 := hF0.below hb1
  have hB1 : Below w.heap.size w w1 := hB0.trans (hb1.mono hB0.size)
  have hc1 := hF1.cells
  have HZ : Hid (FaultIs p k l ze) := hze
  clear hze
  go_wp2_with fail
  refine (Add_any p k a b l _ _ (hT.below hB1) (hl.below hB1) hll).mono ?_
  rintro e w2 ⟨s, z1, rfl, hO1, HS0, HS1, hb2⟩
  have hF2 := hF1.below hb2
  have hB2 : Below w.heap.size w w2 := hB1.trans (hb2.mono hB1.size)
  have hc2 := hF2.cells
  have HO1 : Hid (OpenIs p k l [a, b] z1) := hO1
  clear hO1
  go_wp2_with fail
  refine (Mul_any p k a b l _ _ (hT.below hB2) (hl.below hB2) hll).mono ?_
  rintro e w3 ⟨m, z2, rfl, hO2, HM0, HM1, hb3⟩
  have hF3 := hF2.below hb3
  have hB3 : Below w.heap.size w w3 := hB2.trans (hb3.mono hB2.size)
  have hc3 := hF3.cells
  have HO2 : Hid (OpenIs p k l [a, b] z2) := hO2
  clear hO2
  by_cases h0 : ze = 0
  · subst h0
    go_wp2_with fail
    refine (in_any p k a A l.length ca _).mono ?_
    rintro e w4 ⟨rfl, hb4⟩
    have hF4 := hF3.below hb4
    have hB4 : Below w.heap.size w w4 := hB3.trans (hb4.mono hB3.size)
    have hc4 := hF4.cells
    go_wp2_with fail
    refine (in_any p k b A l.length ca _).mono ?_
    rintro e w5 ⟨rfl, hb5⟩
    have hF5 := hF4.below hb5
    have hB5 : Below w.heap.size w w5 := hB4.trans (hb5.mono hB4.size)
    have hc5 := hF5.cells
    by_cases hin : inL (ordZ p k) [a, b]
    · have hz1 : z1 = 0 := open_in HZ.out hin HO1.out
      have hz2 : z2 = 0 := open_in HZ.out hin HO2.out
      subst hz1 hz2
      obtain ⟨hia, hib⟩ := (inL_pair _ _ _).1 hin
      have hs := HS1.out rfl
      have hm := HM1.out rfl
      obtain ⟨P, K, rfl, rfl, hP, hP', hK, hK', hPK, hq, hlen, hmi, hmK, _⟩ := good_parts HZ.out
      have ha := (inB_iff _ _).1 hia
      have hb := (inB_iff _ _).1 hib
      rw [hq] at ha hb
      obtain ⟨a', rfl⟩ := Int.eq_ofNat_of_zero_le ha.1
      obtain ⟨b', rfl⟩ := Int.eq_ofNat_of_zero_le hb.1
      have ha' : a' < P ^ K := by omega
      have hb' : b' < P ^ K := by omega
      unfold sumZ at hs
      unfold prodZ at hm
      simp only [Int.toNat_natCast] at hs hm
      rw [prod_same hP hK hK' ha' hb'] at hm
      have HS : Hid (hor (plusF (digF a' P) (digF b' P) P) P K K = s) := hs.symm
      have HMM : Hid (hor (redN (monL l) K P K (mulN (digF a' P) (digF b' P) P K K)) P K K = m) := hm.symm
      have HMK : Hid (monL l K = 1) := hmK
      have HLEN : Hid (l.length = K) := hlen
      clear hs hm ha hb hq hin HS0 HS1 HM0 HM1 hmK hlen
      go_wp2_with fail
      refine (sum_any P K a' b' A l.length ca _ hP (by omega) hK hK' hPK ha' hb').mono ?_
      rintro e w6 ⟨rfl, hb6⟩
      rw [HS.out]
      have hF6 := hF5.below hb6
      have hB6 : Below w.heap.size w w6 := hB5.trans (hb6.mono hB5.size)
      have hc6 := hF6.cells
      go_wp2_with fail
      refine (timesRef_any P K a' b' l _ _ (hl.below hB6) HLEN.out hP (by omega) hK hK' hPK ha' hb' hmi HMK).mono ?_
      rintro e w7 ⟨rfl, hb7⟩
      rw [HMM.out]
      have hB7 : Below w.heap.size w w7 := hB6.trans (hb7.mono hB6.size)
      have hss : (s == s) = true := by simp
      have hmm : (m == m) = true := by simp
      go_wp2
      go_ret
      exact ⟨ret_bool rfl, hB7⟩
    · have hz1 : z1 = 1 := open_out HZ.out hin HO1.out
      have hz2 : z2 = 1 := open_out HZ.out hin HO2.out
      subst hz1 hz2
      have hs : s = 0 := HS0.out (by decide)
      have hm : m = 0 := HM0.out (by decide)
      subst hs hm
      have hno : ¬ (inB (ordZ p k) a = true ∧ inB (ordZ p k) b = true) := fun h => hin ((inL_pair _ _ _).2 h)
      clear hin
      cases hia : inB (ordZ p k) a
      · go_wp2
        go_ret
        exact ⟨ret_bool rfl, hB5⟩
      · cases hib : inB (ordZ p k) b
        · go_wp2
          go_ret
          exact ⟨ret_bool rfl, hB5⟩
        · exact absurd ⟨hia, hib⟩ hno
  · have hz1 : z1 = ze := open_err HZ.out h0 HO1.out
    have hz2 : z2 = ze := open_err HZ.out h0 HO2.out
    subst hz1 hz2
    have hs : s = 0 := HS0.out h0
    have hm : m = 0 := HM0.out h0
    subst hs hm
    have hb0 : (z2 == 0) = false := by simpa using h0
    have hbn : (z2 != 0) = true := by simpa using h0
    have hbe : (z2 != z2) = false := by simp
    go_wp2
    go_ret
    exact ⟨ret_bool rfl, hB3⟩

end Go.Proofs.YtgbkfkhjfbkidaaDoor
