/- The walk of order: the order of the field, or 0. -/
import Derived.Test.YtjfjdidibglhaabDoorBase
/- The walk of isPrime: it answers whether the number stands in the table. -/
namespace Go.Proofs.YtjfjdidibglhaabDoor.Fd
open Go.RowKit

set_option maxRecDepth 100000 in
theorem und69 : Tryd.prog.underlying 145 = some (.array 18 3) := by kernel_rfl
set_option maxRecDepth 100000 in
theorem idx69 (k : Nat) (h : k < 18) (w : World) : (Instr.index 145 (.agg primeCells) (.int .i64 (k : Int))).run Tryd.prog w = .ok (.int .i64 (primeAt k)) w := by
  have : k = 0 ∨ k = 1 ∨ k = 2 ∨ k = 3 ∨ k = 4 ∨ k = 5 ∨ k = 6 ∨ k = 7 ∨ k = 8 ∨ k = 9 ∨ k = 10 ∨ k = 11 ∨ k = 12 ∨ k = 13 ∨ k = 14 ∨ k = 15 ∨ k = 16 ∨ k = 17 := by omega
  rcases this with rfl | rfl | rfl | rfl | rfl | rfl | rfl | rfl | rfl | rfl | rfl | rfl | rfl | rfl | rfl | rfl | rfl | rfl <;> (change _ = _; kernel_rfl)

set_option maxRecDepth 100000 in
set_option maxHeartbeats 400000 in
theorem isPrime_any (n : Int) (w : World) (hT : Tab w) :
    Calls Tryd.prog 92 #[.int .i64 n] w fun e w' => e = .returned (.bool (isPrimeB n)) ∧ w' = w := by
  obtain ⟨tt, fr, hg⟩ := hT
  go_enter Tryd.func92, Tryd.ntmps92
  go_wp2_with (refine wpList_load_row rfl 145 _ rfl 0 rfl tt _ fr _ hg und69 rfl (by kernel_rfl) ?_)
  go_loop [4, 6] (fun _ i => ∃ k : Nat, k ≤ 18 ∧ i = .int .i64 k ∧ ∀ j : Nat, j < k → primeAt j ≠ n) (fun _ i => 18 - (intOf i).toNat)
  case atStart => exact ⟨0, Nat.zero_le _, rfl, fun j h => absurd h (Nat.not_lt_zero _)⟩
  case round =>
    obtain ⟨k, hk, rfl, hno⟩ := hrel
    by_cases hlt : k < 18
    · have hix := idx69 k hlt
      by_cases he : primeAt k = n
      · have hb : ((primeAt k) == n) = true := by simpa using he
        have HP : Hid (isPrimeB n = true) := prime_mem n k hlt he
        clear he
        go_wp2
        go_ret
        exact ⟨ret_bool HP.out.symm, rfl⟩
      · have hb : ((primeAt k) == n) = false := by simpa using he
        go_wp2
        go_round
        case rel => exact ⟨k + 1, by omega, by go_num, fun j hj => by
          by_cases e : j = k
          · subst e; exact he
          · exact hno j (by omega)⟩
        case measure => simp [intOf]; omega
    · have HP : Hid (isPrimeB n = false) := prime_not n (fun j hj => hno j (by omega))
      go_wp2
      go_ret
      exact ⟨ret_bool HP.out.symm, rfl⟩

end Go.Proofs.YtjfjdidibglhaabDoor.Fd

namespace Go.Proofs.YtjfjdidibglhaabDoor.Fd
open Go.RowKit

set_option maxRecDepth 100000 in
set_option maxHeartbeats 400000 in
theorem order_any (p k : Int) (w : World) (hT : Tab w) :
    Calls Tryd.prog 57 #[.int .i64 p, .int .i64 k] w fun e w' => e = .returned (.int .i64 (ordZ p k)) ∧ w' = w := by
  cases hp : isPrimeB p
  · have HO : Hid (ordZ p k = 0) := ord_no hp
    go_enter Tryd.func57, Tryd.ntmps57
    go_wp2_with (go_at_call 92; refine (isPrime_any _ _ hT).mono ?_; rintro e w' ⟨rfl, rfl⟩)
    go_ret
    exact ⟨ret_int HO.out.symm, rfl⟩
  · have hb := prime_bd hp
    by_cases h1 : k < 1
    · have HO : Hid (ordZ p k = 0) := ord_lo h1
      go_enter Tryd.func57, Tryd.ntmps57
      go_wp2_with (go_at_call 92; refine (isPrime_any _ _ hT).mono ?_; rintro e w' ⟨rfl, rfl⟩)
      go_ret
      exact ⟨ret_int HO.out.symm, rfl⟩
    · by_cases h6 : 6 < k
      · have HO : Hid (ordZ p k = 0) := ord_hi h6
        go_enter Tryd.func57, Tryd.ntmps57
        go_wp2_with (go_at_call 92; refine (isPrime_any _ _ hT).mono ?_; rintro e w' ⟨rfl, rfl⟩)
        go_ret
        exact ⟨ret_int HO.out.symm, rfl⟩
      · have hd1 : decide (k < 1) = false := by simpa using h1
        have hd6 : decide (6 < k) = false := by simpa using h6
        have HP : Hid (isPrimeB p = true) := hp
        go_enter Tryd.func57, Tryd.ntmps57
        go_wp2_with (go_at_call 92; refine (isPrime_any _ _ hT).mono ?_; rintro e w' ⟨rfl, rfl⟩)
        go_loop [5, 16] (fun q i => ∃ j : Nat, (j : Int) ≤ k ∧ i = .int .i64 j ∧ q = .int .i64 (p ^ j) ∧ p ^ j ≤ 64) (fun _ i => (k - intOf i).toNat)
        case atStart => exact ⟨0, by omega, rfl, by simp, by simp⟩
        case round =>
          obtain ⟨j, hj, rfl, rfl, hq⟩ := hrel
          have hq1 := (pow_mono_step p hb.1 j j (Nat.le_refl _)).1
          by_cases hlt : (j : Int) < k
          · have hm : p ^ j * p ≤ 64 * 61 := Int.mul_le_mul hq hb.2 (by omega) (by omega)
            have hm0 : 0 ≤ p ^ j * p := Int.mul_nonneg (by omega) (by omega)
            have HS : Hid (p ^ (j + 1) = p ^ j * p) := Int.pow_succ p j
            by_cases ho : 64 < p ^ j * p
            · have HO : Hid (ordZ p k = 0) := ord_over hb.1 (j + 1) (by omega) (by rw [HS.out]; exact ho)
              go_wp2
              go_ret
              exact ⟨ret_int HO.out.symm, rfl⟩
            · go_wp2
              go_round
              case rel => exact ⟨j + 1, by omega, by go_num, by rw [HS.out], by rw [HS.out]; omega⟩
              case measure => simp [intOf]; omega
          · have HO : Hid (ordZ p k = p ^ j) := by
              show ordZ p k = p ^ j
              have : k.toNat = j := by omega
              rw [ord_eq HP.out (by omega) (by rw [this]; exact hq), this]
            go_wp2
            go_ret
            exact ⟨ret_int HO.out.symm, rfl⟩

end Go.Proofs.YtjfjdidibglhaabDoor.Fd
