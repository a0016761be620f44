/- The walk of isPrime: it answers whether the number stands in the table. -/
import Derived.Test.YtcjkcgfohmhbcabDoorBase
namespace Go.Proofs.YtcjkcgfohmhbcabDoor.Fd
open Go.RowKit

set_option maxRecDepth 100000 in
theorem und69 : Tryd.prog.underlying 102 = some (.array 18 3) := by kernel_rfl
set_option maxRecDepth 100000 in
theorem idx69 (k : Nat) (h : k < 18) (w : World) : (Instr.index 102 (.agg primeCells) (.int .i64 (k : Int))).run Tryd.prog w = .ok (.int .i64 (primeAt k)) w := by
  have : k = 0 ∨ k = 1 ∨ k = 2 ∨ k = 3 ∨ k = 4 ∨ k = 5 ∨ k = 6 ∨ k = 7 ∨ k = 8 ∨ k = 9 ∨ k = 10 ∨ k = 11 ∨ k = 12 ∨ k = 13 ∨ k = 14 ∨ k = 15 ∨ k = 16 ∨ k = 17 := by omega
  rcases this with rfl | rfl | rfl | rfl | rfl | rfl | rfl | rfl | rfl | rfl | rfl | rfl | rfl | rfl | rfl | rfl | rfl | rfl <;> (change _ = _; kernel_rfl)

set_option maxRecDepth 100000 in
set_option maxHeartbeats 400000 in
theorem isPrime_any (n : Int) (w : World) (hT : Tab w) :
    Calls Tryd.prog 45 #[.int .i64 n] w fun e w' => e = .returned (.bool (isPrimeB n)) ∧ w' = w := by
  obtain ⟨tt, fr, hg⟩ := hT
  go_enter Tryd.func45, Tryd.ntmps45
  go_wp2_with (refine wpList_load_row rfl 102 _ rfl 0 rfl tt _ fr _ hg und69 rfl (by kernel_rfl) ?_)
  go_loop [4, 6] (fun _ i => ∃ k : Nat, k ≤ 18 ∧ i = .int .i64 k ∧ ∀ j : Nat, j < k → primeAt j ≠ n) (fun _ i => 18 - (intOf i).toNat)
  case atStart => exact ⟨0, Nat.zero_le _, rfl, fun j h => absurd h (Nat.not_lt_zero _)⟩
  case round =>
    obtain ⟨k, hk, rfl, hno⟩ := hrel
    by_cases hlt : k < 18
    · have hix := idx69 k hlt
      by_cases he : primeAt k = n
      · have hb : ((primeAt k) == n) = true := by simpa using he
        have HP : Hid (isPrimeB n = true) := prime_mem n k hlt he
        clear he
        go_wp2
        go_ret
        exact ⟨ret_bool HP.out.symm, rfl⟩
      · have hb : ((primeAt k) == n) = false := by simpa using he
        go_wp2
        go_round
        case rel => exact ⟨k + 1, by omega, by go_num, fun j hj => by
          by_cases e : j = k
          · subst e; exact he
          · exact hno j (by omega)⟩
        case measure => simp [intOf]; omega
    · have HP : Hid (isPrimeB n = false) := prime_not n (fun j hj => hno j (by omega))
      go_wp2
      go_ret
      exact ⟨ret_bool HP.out.symm, rfl⟩

end Go.Proofs.YtcjkcgfohmhbcabDoor.Fd
