/- The walks of IsPrime and OrderOf of the document's answer. -/
import Derived.Test.YtjfjdidibglhaabDoorBase
namespace Go.Proofs.YtjfjdidibglhaabDoor.Fd
open Go.RowKit

set_option maxRecDepth 100000 in
set_option maxHeartbeats 400000 in
theorem isPrimeRef_any (n : Int) (w : World) (hn : n ≤ 64) :
    Calls Tryd.prog 42 #[.int .i64 n] w fun e w' => e = .returned (.bool (isPrimeB n)) ∧ w' = w := by
  by_cases h2 : n < 2
  · have HO : Hid (isPrimeB n = false) := by
      show isPrimeB n = false
      rw [Bool.eq_false_iff]; intro h; have := prime_bd h; omega
    go_enter Tryd.func42, Tryd.ntmps42
    go_wp2
    go_ret
    exact ⟨ret_bool HO.out.symm, rfl⟩
  · have hd2 : decide (n < 2) = false := by simpa using h2
    have hd1 : decide (100000 < n) = false := by simp; omega
    obtain ⟨m, rfl⟩ := Int.eq_ofNat_of_zero_le (show 0 ≤ n by omega)
    go_enter Tryd.func42, Tryd.ntmps42
    go_wp2
    go_loop [3] (fun i => ∃ d : Nat, 2 ≤ d ∧ d ≤ 9 ∧ i = .int .i64 d ∧ noDiv m d = true) (fun i => (9 - intOf i).toNat)
    case atStart => exact ⟨2, by omega, by omega, rfl, noDiv_two m⟩
    case round =>
      obtain ⟨d, hd2', hd9, rfl, hno⟩ := hrel
      have HN : Hid (noDiv m d = true) := hno
      clear hno
      have hmm : d * d ≤ 81 := Nat.mul_le_mul hd9 hd9
      have hmi : ((d * d : Nat) : Int) = (d : Int) * d := by simp
      have hz : (0 : Int) ≤ (d : Int) * d := by omega
      have hz2 : (d : Int) * d ≤ 81 := by omega
      by_cases hle : d * d ≤ m
      · have hle' : (d : Int) * d ≤ m := by omega
        have hd8 : d < 9 := by
          apply Classical.byContradiction; intro h
          have : 9 * 9 ≤ d * d := Nat.mul_le_mul (by omega) (by omega)
          omega
        clear hmi
        by_cases hr : m % d = 0
        · have HO : Hid (isPrimeB (m : Int) = false) := prime_not_div m (by omega) d hd8 hd2' hle hr
          have hb : ((m : Int) % (d : Int) == 0) = true := by simp; omega
          clear hr
          go_wp2
          go_ret
          exact ⟨ret_bool HO.out.symm, rfl⟩
        · have hb : ((m : Int) % (d : Int) == 0) = false := by simp; omega
          go_wp2
          go_round
          case rel => exact ⟨d + 1, by omega, by omega, by go_num, noDiv_succ m d HN.out hr⟩
          case measure => simp [intOf]; omega
      · have hle' : ¬ (d : Int) * d ≤ m := by omega
        have HO : Hid (isPrimeB (m : Int) = true) := prime_by_div m (by omega) d (by omega) (by omega) hd2' (by omega) HN.out
        clear hmi
        go_wp2
        go_ret
        exact ⟨ret_bool HO.out.symm, rfl⟩

set_option maxRecDepth 100000 in
set_option maxHeartbeats 400000 in
theorem orderOf_any (p k : Int) (w : World) :
    Calls Tryd.prog 20 #[.int .i64 p, .int .i64 k] w fun e w' => e = .returned (.int .i64 (ordZ p k)) ∧ w' = w := by
  by_cases h64 : 64 < p
  · have HO : Hid (ordZ p k = 0) := ord_no (by rw [Bool.eq_false_iff]; intro h; have := prime_bd h; omega)
    go_enter Tryd.func20, Tryd.ntmps20
    go_wp2
    go_ret
    exact ⟨ret_int HO.out.symm, rfl⟩
  · have hd64 : decide (64 < p) = false := by simpa using h64
    by_cases h1 : k < 1
    · have HO : Hid (ordZ p k = 0) := ord_lo h1
      go_enter Tryd.func20, Tryd.ntmps20
      go_wp2
      go_ret
      exact ⟨ret_int HO.out.symm, rfl⟩
    · have hd1 : decide (k < 1) = false := by simpa using h1
      cases hp : isPrimeB p
      · have HO : Hid (ordZ p k = 0) := ord_no hp
        go_enter Tryd.func20, Tryd.ntmps20
        go_wp2_with (go_at_call 42; refine (isPrimeRef_any _ _ (by omega)).mono ?_; rintro e w' ⟨rfl, rfl⟩)
        go_ret
        exact ⟨ret_int HO.out.symm, rfl⟩
      · have hb := prime_bd hp
        have HP : Hid (isPrimeB p = true) := hp
        go_enter Tryd.func20, Tryd.ntmps20
        go_wp2_with (go_at_call 42; refine (isPrimeRef_any _ _ (by omega)).mono ?_; rintro e w' ⟨rfl, rfl⟩)
        go_loop [6, 7] (fun q i => ∃ j : Nat, (j : Int) ≤ k ∧ i = .int .i64 j ∧ q = .int .i64 (p ^ j) ∧ p ^ j ≤ 64) (fun _ i => (k - intOf i).toNat)
        case atStart => exact ⟨0, by omega, rfl, by simp, by simp⟩
        case round =>
          obtain ⟨j, hj, rfl, rfl, hq⟩ := hrel
          have hq1 := (pow_mono_step p hb.1 j j (Nat.le_refl _)).1
          have hj7 : j < 7 := by
            apply Classical.byContradiction; intro h
            have := pow_two_le p hb.1 j (by omega)
            omega
          by_cases hlt : (j : Int) < k
          · have hm : p ^ j * p ≤ 64 * 61 := Int.mul_le_mul hq hb.2 (by omega) (by omega)
            have hm0 : 0 ≤ p ^ j * p := Int.mul_nonneg (by omega) (by omega)
            have HS : Hid (p ^ (j + 1) = p ^ j * p) := Int.pow_succ p j
            by_cases ho : 64 < p ^ j * p
            · have HO : Hid (ordZ p k = 0) := ord_over hb.1 (j + 1) (by omega) (by rw [HS.out]; exact ho)
              go_wp2
              go_ret
              exact ⟨ret_int HO.out.symm, rfl⟩
            · go_wp2
              go_round
              case rel => exact ⟨j + 1, by omega, by go_num, by rw [HS.out], by rw [HS.out]; omega⟩
              case measure => simp [intOf]; omega
          · have HO : Hid (ordZ p k = p ^ j) := by
              show ordZ p k = p ^ j
              have : k.toNat = j := by omega
              rw [ord_eq HP.out (by omega) (by rw [this]; exact hq), this]
            go_wp2
            go_ret
            exact ⟨ret_int HO.out.symm, rfl⟩

end Go.Proofs.YtjfjdidibglhaabDoor.Fd
