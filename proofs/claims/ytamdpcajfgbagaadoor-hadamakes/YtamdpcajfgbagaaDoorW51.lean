/- The walks of IsPrime and OrderOf of the document's answer. -/
import Derived.Test.YtamdpcajfgbagaaDoorBase
namespace Go.Proofs.YtamdpcajfgbagaaDoor.Fd
open Go.RowKit

set_option maxRecDepth 100000 in
set_option maxHeartbeats 400000 in
theorem isPrimeRef_any (n : Int) (w : World) (hn : n ≤ 64) :
    Calls Tryd.prog 21 #[.int .i64 n] w fun e w' => e = .returned (.bool (isPrimeB n)) ∧ w' = w := by
  by_cases h2 : n < 2
  · have HO : Hid (isPrimeB n = false) := by
      show isPrimeB n = false
      rw [Bool.eq_false_iff]; intro h; have := prime_bd h; omega
    go_enter Tryd.func21, Tryd.ntmps21
    go_wp2
    go_ret
    exact ⟨ret_bool HO.out.symm, rfl⟩
  · have hd2 : decide (n < 2) = false := by simpa using h2
    have hd1 : decide (100000 < n) = false := by simp; omega
    obtain ⟨m, rfl⟩ := Int.eq_ofNat_of_zero_le (show 0 ≤ n by omega)
    go_enter Tryd.func21, Tryd.ntmps21
    go_wp2
    go_loop [3] (fun i => ∃ d : Nat, 2 ≤ d ∧ d ≤ 9 ∧ i = .int .i64 d ∧ noDiv m d = true) (fun i => (9 - intOf i).toNat)
    case atStart => exact ⟨2, by omega, by omega, rfl, noDiv_two m⟩
    case round =>
      obtain ⟨d, hd2', hd9, rfl, hno⟩ := hrel
      have HN : Hid (noDiv m d = true) := hno
      clear hno
      have hmm : d * d ≤ 81 := Nat.mul_le_mul hd9 hd9
      have hmi : ((d * d : Nat) : Int) = (d : Int) * d := by simp
      have hz : (0 : Int) ≤ (d : Int) * d := by omega
      have hz2 : (d : Int) * d ≤ 81 := by omega
      by_cases hle : d * d ≤ m
      · have hle' : (d : Int) * d ≤ m := by omega
        have hd8 : d < 9 := by
          apply Classical.byContradiction; intro h
          have : 9 * 9 ≤ d * d := Nat.mul_le_mul (by omega) (by omega)
          omega
        clear hmi
        by_cases hr : m % d = 0
        · have HO : Hid (isPrimeB (m : Int) = false) := prime_not_div m (by omega) d hd8 hd2' hle hr
          have hb : ((m : Int) % (d : Int) == 0) = true := by simp; omega
          clear hr
          go_wp2
          go_ret
          exact ⟨ret_bool HO.out.symm, rfl⟩
        · have hb : ((m : Int) % (d : Int) == 0) = false := by simp; omega
          go_wp2
          go_round
          case rel => exact ⟨d + 1, by omega, by omega, by go_num, noDiv_succ m d HN.out hr⟩
          case measure => simp [intOf]; omega
      · have hle' : ¬ (d : Int) * d ≤ m := by omega
        have HO : Hid (isPrimeB (m : Int) = true) := prime_by_div m (by omega) d (by omega) (by omega) hd2' (by omega) HN.out
        clear hmi
        go_wp2
        go_ret
        exact ⟨ret_bool HO.out.symm, rfl⟩

end Go.Proofs.YtamdpcajfgbagaaDoor.Fd
