/- The walk of order: the order of the field, or 0. -/
import Derived.Test.YtcjkcgfohmhbcabDoorW55
namespace Go.Proofs.YtcjkcgfohmhbcabDoor.Fd
open Go.RowKit

set_option maxRecDepth 100000 in
set_option maxHeartbeats 400000 in
theorem order_any (p k : Int) (w : World) (hT : Tab w) :
    Calls Tryd.prog 27 #[.int .i64 p, .int .i64 k] w fun e w' => e = .returned (.int .i64 (ordZ p k)) ∧ w' = w := by
  cases hp : isPrimeB p
  · have HO : Hid (ordZ p k = 0) := ord_no hp
    go_enter Tryd.func27, Tryd.ntmps27
    go_wp2_with (go_at_call 45; refine (isPrime_any _ _ hT).mono ?_; rintro e w' ⟨rfl, rfl⟩)
    go_ret
    exact ⟨ret_int HO.out.symm, rfl⟩
  · have hb := prime_bd hp
    by_cases h1 : k < 1
    · have HO : Hid (ordZ p k = 0) := ord_lo h1
      go_enter Tryd.func27, Tryd.ntmps27
      go_wp2_with (go_at_call 45; refine (isPrime_any _ _ hT).mono ?_; rintro e w' ⟨rfl, rfl⟩)
      go_ret
      exact ⟨ret_int HO.out.symm, rfl⟩
    · by_cases h6 : 6 < k
      · have HO : Hid (ordZ p k = 0) := ord_hi h6
        go_enter Tryd.func27, Tryd.ntmps27
        go_wp2_with (go_at_call 45; refine (isPrime_any _ _ hT).mono ?_; rintro e w' ⟨rfl, rfl⟩)
        go_ret
        exact ⟨ret_int HO.out.symm, rfl⟩
      · have hd1 : decide (k < 1) = false := by simpa using h1
        have hd6 : decide (6 < k) = false := by simpa using h6
        have HP : Hid (isPrimeB p = true) := hp
        go_enter Tryd.func27, Tryd.ntmps27
        go_wp2_with (go_at_call 45; refine (isPrime_any _ _ hT).mono ?_; rintro e w' ⟨rfl, rfl⟩)
        go_loop [5, 16] (fun q i => ∃ j : Nat, (j : Int) ≤ k ∧ i = .int .i64 j ∧ q = .int .i64 (p ^ j) ∧ p ^ j ≤ 64) (fun _ i => (k - intOf i).toNat)
        case atStart => exact ⟨0, by omega, rfl, by simp, by simp⟩
        case round =>
          obtain ⟨j, hj, rfl, rfl, hq⟩ := hrel
          have hq1 := (pow_mono_step p hb.1 j j (Nat.le_refl _)).1
          by_cases hlt : (j : Int) < k
          · have hm : p ^ j * p ≤ 64 * 61 := Int.mul_le_mul hq hb.2 (by omega) (by omega)
            have hm0 : 0 ≤ p ^ j * p := Int.mul_nonneg (by omega) (by omega)
            have HS : Hid (p ^ (j + 1) = p ^ j * p) := Int.pow_succ p j
            by_cases ho : 64 < p ^ j * p
            · have HO : Hid (ordZ p k = 0) := ord_over hb.1 (j + 1) (by omega) (by rw [HS.out]; exact ho)
              go_wp2
              go_ret
              exact ⟨ret_int HO.out.symm, rfl⟩
            · go_wp2
              go_round
              case rel => exact ⟨j + 1, by omega, by go_num, by rw [HS.out], by rw [HS.out]; omega⟩
              case measure => simp [intOf]; omega
          · have HO : Hid (ordZ p k = p ^ j) := by
              show ordZ p k = p ^ j
              have : k.toNat = j := by omega
              rw [ord_eq HP.out (by omega) (by rw [this]; exact hq), this]
            go_wp2
            go_ret
            exact ⟨ret_int HO.out.symm, rfl⟩

end Go.Proofs.YtcjkcgfohmhbcabDoor.Fd
