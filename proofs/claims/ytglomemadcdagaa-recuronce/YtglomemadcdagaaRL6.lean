/- The law RecurFull, walked. -/
import Derived.Test.YtglomemadcdagaaR19
namespace Go.Proofs.Ytglomemadcdagaa
open Go.RowKit

theorem fullZ_ok {p k : Int} (h : fullZ p k = 0) : smB p = true ∧ 1 ≤ k ∧ k ≤ 8 ∧ p.toNat ^ k.toNat ≤ 2000 := by
  unfold fullZ at h
  by_cases h1 : smB p = false ∨ k < 1
  · rw [if_pos h1] at h; omega
  · rw [if_neg h1] at h
    by_cases h2 : 8 < k ∨ 2000 < p.toNat ^ k.toNat
    · rw [if_pos h2] at h; omega
    · have e1 : ¬ smB p = false := fun e => h1 (.inl e)
      have e2 : ¬ k < 1 := fun e => h1 (.inr e)
      have e3 : ¬ 8 < k := fun e => h2 (.inl e)
      have e4 : ¬ 2000 < p.toNat ^ k.toNat := fun e => h2 (.inr e)
      exact ⟨by simpa using e1, by omega, by omega, by omega⟩
theorem FullIs.len {P k Q : Nat} {s : List Int} {z : Int} (h : FullIs P k Q s z) : s.length ≤ k := by
  rcases h with ⟨n, _, _, _, rfl, _⟩ | ⟨_, rfl, _⟩
  · rw [dgL_len]; exact Nat.le_refl _
  · simp

set_option maxHeartbeats 2000000 in
theorem law6_any (p k : Int) (w : World) (hk63 : k ≤ 9223372036854775807) :
    Calls Try.prog 6 #[.int .i64 p, .int .i64 k] w fun e w' => e = .returned (.bool true) ∧ Below w.heap.size w w' := by
  obtain ⟨z, Hz⟩ : ∃ z : Int, Hid (z = fullZ p k) := ⟨_, rfl⟩
  by_cases h0 : z = 0
  · subst h0
    obtain ⟨h1, h2, h3, h4⟩ := fullZ_ok Hz.out.symm
    have hpb := smB_bd h1
    obtain ⟨P, rfl⟩ := Int.eq_ofNat_of_zero_le (show 0 ≤ p by omega)
    obtain ⟨K, rfl⟩ := Int.eq_ofNat_of_zero_le (show 0 ≤ k by omega)
    rw [Int.toNat_natCast, Int.toNat_natCast] at h4
    obtain ⟨Q, HQ⟩ : ∃ Q : Nat, Hid (Q = P ^ K) := ⟨_, rfl⟩
    rw [← HQ.out] at h4
    have C1 := Full_ok P K Q w h1 (by omega) (by omega) HQ h4
    have C2 := fun A => FullOf_ok P K Q A h1 (by omega) (by omega) HQ h4
    have hK8 : K ≤ 8 := by omega
    clear h2 h3 hpb
    go_enter Try.func6, Try.ntmps6
    go_wp2_with fail
    refine C1.mono ?_
    rintro e w1 ⟨u, s, z, rfl, hs1, hF1, hb1⟩
    go_wp2_with fail
    refine (C2 w1).mono ?_
    rintro e w2 ⟨u', s', z', rfl, hs2, hF2, hb2⟩
    have hl1 := hF1.len
    have hl2 := hF2.len
    obtain ⟨es, ez⟩ := hF1.one hF2
    subst es ez
    have C3 := ints_any s s u u' w2 (hs1.below hb2) hs2 (by unfold maxLen; omega) (by unfold maxLen; omega)
    have hzz : (z == z) = true := by simp
    clear hF1 hF2
    obtain ⟨ua, uc, rfl, _⟩ := id hs1
    obtain ⟨ua', uc', rfl, _⟩ := id hs2
    go_wp2_with (first
      | (go_at_call 14; refine C3.mono ?_; rintro e w3 ⟨b, rfl, hb, hb3⟩; obtain rfl : b = true := (by first | exact hb.2 rfl | simpa using hb)))
    go_ret
    exact ⟨rfl, (hb1.trans (hb2.mono hb1.size)).trans (hb3.mono (by have h1 := hb1.size; have h2 := hb2.size; omega))⟩
  · have C1 := Full_bad p k w z Hz.out.symm h0
    have C2 := FullOf_bad p k w z Hz.out.symm h0 hk63
    have C3 := ints_any [] [] (.slice none 0 0) (.slice none 0 0) w (Sl.nil w) (Sl.nil w) (by simp) (by simp)
    have hzz : (z == z) = true := by simp
    go_enter Try.func6, Try.ntmps6
    go_wp2_with (first
      | (go_at_call 19; refine C1.mono ?_; rintro e w1 ⟨rfl, hw⟩; replace hw := hw.symm; subst hw)
      | (go_at_call 20; refine C2.mono ?_; rintro e w1 ⟨rfl, hw⟩; replace hw := hw.symm; subst hw)
      | (go_at_call 14; refine C3.mono ?_; rintro e w3 ⟨b, rfl, hb, hb3⟩; obtain rfl : b = true := (by first | exact hb.2 rfl | simpa using hb)))
    go_ret
    exact ⟨rfl, hb3⟩

end Go.Proofs.Ytglomemadcdagaa
