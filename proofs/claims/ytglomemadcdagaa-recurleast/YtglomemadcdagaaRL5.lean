/- The law RecurLeast, walked: the shortest recurrence of any row, or what is wrong. -/
import Derived.Test.YtglomemadcdagaaR18
import Derived.Test.YtglomemadcdagaaR14
namespace Go.Proofs.Ytglomemadcdagaa
open Go.RowKit

set_option maxHeartbeats 2000000 in
theorem Least_bad (p : Int) (S : List Int) (u : Value) (w : World) (z : Int) (hu : Sl w u S) (hll : S.length ≤ maxLen) (hz : leastZ p S = z) (hz0 : z ≠ 0) :
    Calls Try.prog 17 #[.int .i64 p, u] w fun e w' => e = .returned (.tuple #[.int .i64 0, .slice none 0 0, .int .i64 z]) ∧ w' = w := by
  have hlm : S.length ≤ 9223372036854775807 := by unfold maxLen at hll; omega
  have C2 := allBelow_any S u p w hu hll
  obtain ⟨ua, uc, rfl, _⟩ := id hu
  by_cases h1 : smB p = false
  · obtain rfl : 1 = z := by rw [← hz]; unfold leastZ; rw [if_pos h1]
    go_enter Try.func17, Try.ntmps17
    go_wp2_with (first | (go_at_call 31; refine (isPrime_any p _).mono ?_; rw [h1]; rintro e w' ⟨rfl, hw⟩; replace hw := hw.symm; subst hw))
    exact bodyPost_ret (v := .tuple #[.int .i64 0, .slice none 0 0, .int .i64 1]) (by simp [results, Try.results17, go_sem]) rfl ⟨rfl, rfl⟩
  · have h1' : smB p = true := by simpa using h1
    by_cases h2 : 60 < S.length
    · obtain rfl : 3 = z := by rw [← hz]; unfold leastZ; rw [if_neg h1, if_pos h2]
      have hd : decide ((60 : Int) < (S.length : Int)) = true := by simp; omega
      go_enter Try.func17, Try.ntmps17
      go_wp2_with (first | (go_at_call 31; refine (isPrime_any p _).mono ?_; rw [h1']; rintro e w' ⟨rfl, hw⟩; replace hw := hw.symm; subst hw))
      exact bodyPost_ret (v := .tuple #[.int .i64 0, .slice none 0 0, .int .i64 3]) (by simp [results, Try.results17, go_sem]) rfl ⟨rfl, rfl⟩
    · have hd : decide ((60 : Int) < (S.length : Int)) = false := by simp; omega
      have h3 : belB p S = false := by
        by_cases h3 : belB p S = false
        · exact h3
        · exact absurd (hz.symm.trans (by unfold leastZ; rw [if_neg h1, if_neg h2, if_neg h3])) hz0
      obtain rfl : 1 = z := by rw [← hz]; unfold leastZ; rw [if_neg h1, if_neg h2, if_pos h3]
      rw [h3] at C2
      go_enter Try.func17, Try.ntmps17
      go_wp2_with (first
        | (go_at_call 31; refine (isPrime_any p _).mono ?_; rw [h1']; rintro e w' ⟨rfl, hw⟩; replace hw := hw.symm; subst hw)
        | (go_at_call 32; refine C2.mono ?_; rintro e w' ⟨rfl, hw⟩; replace hw := hw.symm; subst hw))
      exact bodyPost_ret (v := .tuple #[.int .i64 0, .slice none 0 0, .int .i64 1]) (by simp [results, Try.results17, go_sem]) rfl ⟨rfl, rfl⟩

set_option maxHeartbeats 2000000 in
theorem LeastOf_bad (p : Int) (S : List Int) (u : Value) (w : World) (z : Int) (hu : Sl w u S) (hll : S.length ≤ maxLen) (hz : leastZ p S = z) (hz0 : z ≠ 0) :
    Calls Try.prog 18 #[.int .i64 p, u] w fun e w' => e = .returned (.tuple #[.int .i64 0, .slice none 0 0, .int .i64 z]) ∧ w' = w := by
  have hlm : S.length ≤ 9223372036854775807 := by unfold maxLen at hll; omega
  have C2 := below_any S u p w hu hll
  obtain ⟨ua, uc, rfl, _⟩ := id hu
  by_cases h1 : smB p = false
  · obtain rfl : 1 = z := by rw [← hz]; unfold leastZ; rw [if_pos h1]
    go_enter Try.func18, Try.ntmps18
    go_wp2_with (first | (go_at_call 24; refine (small_any p _).mono ?_; rw [h1]; rintro e w' ⟨rfl, hw⟩; replace hw := hw.symm; subst hw))
    exact bodyPost_ret (v := .tuple #[.int .i64 0, .slice none 0 0, .int .i64 1]) (by simp [results, Try.results18, go_sem]) rfl ⟨rfl, rfl⟩
  · have h1' : smB p = true := by simpa using h1
    by_cases h2 : 60 < S.length
    · obtain rfl : 3 = z := by rw [← hz]; unfold leastZ; rw [if_neg h1, if_pos h2]
      have hd : decide ((60 : Int) < (S.length : Int)) = true := by simp; omega
      go_enter Try.func18, Try.ntmps18
      go_wp2_with (first | (go_at_call 24; refine (small_any p _).mono ?_; rw [h1']; rintro e w' ⟨rfl, hw⟩; replace hw := hw.symm; subst hw))
      exact bodyPost_ret (v := .tuple #[.int .i64 0, .slice none 0 0, .int .i64 3]) (by simp [results, Try.results18, go_sem]) rfl ⟨rfl, rfl⟩
    · have hd : decide ((60 : Int) < (S.length : Int)) = false := by simp; omega
      have h3 : belB p S = false := by
        by_cases h3 : belB p S = false
        · exact h3
        · exact absurd (hz.symm.trans (by unfold leastZ; rw [if_neg h1, if_neg h2, if_neg h3])) hz0
      obtain rfl : 1 = z := by rw [← hz]; unfold leastZ; rw [if_neg h1, if_neg h2, if_pos h3]
      rw [h3] at C2
      go_enter Try.func18, Try.ntmps18
      go_wp2_with (first
        | (go_at_call 24; refine (small_any p _).mono ?_; rw [h1']; rintro e w' ⟨rfl, hw⟩; replace hw := hw.symm; subst hw)
        | (go_at_call 25; refine C2.mono ?_; rintro e w' ⟨rfl, hw⟩; replace hw := hw.symm; subst hw))
      exact bodyPost_ret (v := .tuple #[.int .i64 0, .slice none 0 0, .int .i64 1]) (by simp [results, Try.results18, go_sem]) rfl ⟨rfl, rfl⟩

theorem leastZ_ok {p : Int} {S : List Int} (h : leastZ p S = 0) : smB p = true ∧ S.length ≤ 60 ∧ belB p S = true := by
  unfold leastZ at h
  by_cases h1 : smB p = false
  · rw [if_pos h1] at h; omega
  · rw [if_neg h1] at h
    by_cases h2 : 60 < S.length
    · rw [if_pos h2] at h; omega
    · rw [if_neg h2] at h
      by_cases h3 : belB p S = false
      · rw [if_pos h3] at h; omega
      · exact ⟨by simpa using h1, by omega, by simpa using h3⟩

set_option maxHeartbeats 2000000 in
theorem law5_any (p : Int) (S : List Int) (u : Value) (w : World) (hu : Sl w u S) (hll : S.length ≤ maxLen) :
    Calls Try.prog 5 #[.int .i64 p, u] w fun e w' => e = .returned (.bool true) ∧ Below w.heap.size w w' := by
  obtain ⟨z, Hz⟩ : ∃ z : Int, Hid (z = leastZ p S) := ⟨_, rfl⟩
  by_cases h0 : z = 0
  · subst h0
    obtain ⟨h1, h2, h3⟩ := leastZ_ok Hz.out.symm
    have hpb := smB_bd h1
    obtain ⟨P, rfl⟩ := Int.eq_ofNat_of_zero_le (show 0 ≤ p by omega)
    have C1 := Least_ok P S u w h1 hu h3 h2
    obtain ⟨ua, uc, rfl, _⟩ := id hu
    clear hpb hll
    go_enter Try.func5, Try.ntmps5
    go_wp2_with fail
    refine C1.mono ?_
    rintro e w1 ⟨v, T, R, rfl, hs1, hT, hr1, hr2, hb1⟩
    have C2 := LeastOf_ok P S T _ w1 h1 (hu.below hb1) h3 h2 hT
    go_wp2_with fail
    refine C2.mono ?_
    rintro e w2 ⟨v', R', rfl, hs2, hr3, hr4, hb2⟩
    have hTl := hT.2.1
    have hRR : R = R' := by
      by_cases h : 2 * T.length ≤ S.length
      · rw [hr1 h, hr3 h]
      · rw [hr2 (by omega), hr4 (by omega)]
    have hRl : R.length ≤ 60 := by
      by_cases h : 2 * T.length ≤ S.length
      · rw [hr1 h]; omega
      · rw [hr2 (by omega)]; simp
    subst hRR
    have C3 := ints_any R R v v' w2 (hs1.below hb2) hs2 (by unfold maxLen; omega) (by unfold maxLen; omega)
    obtain ⟨k, Hk⟩ : ∃ k : Nat, Hid (T.length = k) := ⟨_, rfl⟩
    have hkk : ((k : Int) == (k : Int)) = true := by simp
    obtain ⟨va, vc, rfl, _⟩ := id hs1
    obtain ⟨va', vc', rfl, _⟩ := id hs2
    rw [Hk.out]
    clear hr1 hr2 hr3 hr4 hT hTl
    go_wp2_with (first
      | (go_at_call 14; refine C3.mono ?_; rintro e w3 ⟨b, rfl, hb, hb3⟩; obtain rfl : b = true := (by first | exact hb.2 rfl | simpa using hb)))
    go_ret
    exact ⟨rfl, (hb1.trans (hb2.mono hb1.size)).trans (hb3.mono (by have h1 := hb1.size; have h2 := hb2.size; omega))⟩
  · have C1 := Least_bad p S u w z hu hll Hz.out.symm h0
    have C2 := LeastOf_bad p S u w z hu hll Hz.out.symm h0
    have C3 := ints_any [] [] (.slice none 0 0) (.slice none 0 0) w (Sl.nil w) (Sl.nil w) (by simp) (by simp)
    have hzz : (z == z) = true := by simp
    obtain ⟨ua, uc, rfl, _⟩ := id hu
    go_enter Try.func5, Try.ntmps5
    go_wp2_with (first
      | (go_at_call 17; refine C1.mono ?_; rintro e w1 ⟨rfl, hw⟩; replace hw := hw.symm; subst hw)
      | (go_at_call 18; refine C2.mono ?_; rintro e w1 ⟨rfl, hw⟩; replace hw := hw.symm; subst hw)
      | (go_at_call 14; refine C3.mono ?_; rintro e w3 ⟨b, rfl, hb, hb3⟩; obtain rfl : b = true := (by first | exact hb.2 rfl | simpa using hb)))
    go_ret
    exact ⟨rfl, hb3⟩

end Go.Proofs.Ytglomemadcdagaa
