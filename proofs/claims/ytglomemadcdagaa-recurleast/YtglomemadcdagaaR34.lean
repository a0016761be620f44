/- The walk of solved: Gauss over rows of the call's own. -/
import Derived.Test.YtglomemadcdagaaRMat
import Derived.BigRegion
namespace Go.Proofs.Ytglomemadcdagaa
open Go.RowKit

set_option maxRecDepth 100000 in
set_option maxHeartbeats 4000000 in
theorem solved_none (m : Nat) (p : Int) (w : World) (hm : m ≤ 60) :
    Calls Try.prog 34 #[.slice none 0 0, .int .i64 (m : Int), .int .i64 p] w fun e w' => ∃ z : Nat, e = .returned (.tuple #[.int .i64 (z : Int), .slice none 0 0]) ∧ (m = 0 → z = 1) ∧ (0 < m → z = 2) ∧ w' = w := by
  go_enter Try.func34, Try.ntmps34
  go_wp2
  go_loopw [8, 10] (fun a i wr => ∃ c : Nat, a = .int .i64 0 ∧ i = .int .i64 c ∧ c ≤ m ∧ wr = w) (fun _ i _ => (m - intOf i).toNat)
  case atStart => exact ⟨0, rfl, rfl, by omega, rfl⟩
  case round =>
    obtain ⟨c, rfl, rfl, hc, rfl⟩ := hrel
    by_cases hlt : c < m
    · have hci : (c : Int) < m := by omega
      go_wp2
      go_loopw [11] (fun k wr' => k = .int .i64 0 ∧ wr' = wr) (fun _ _ => 0)
      case atStart => exact ⟨rfl, rfl⟩
      case round =>
        obtain ⟨rfl, rfl⟩ := hrel
        go_wp2
        go_roundw
        case rel => exact ⟨c + 1, rfl, by go_num, by omega, trivial⟩
        case measure => simp [intOf]; omega
    · obtain rfl : c = m := by omega
      go_wp2
      go_loopw [17] (fun k wr' => k = .int .i64 0 ∧ wr' = wr) (fun _ _ => 0)
      case atStart => exact ⟨rfl, rfl⟩
      case round =>
        obtain ⟨rfl, rfl⟩ := hrel
        by_cases h0 : c = 0
        · subst h0
          go_wp2
          go_loopw [18, 19] (fun o k wr' => o = .slice none 0 0 ∧ k = .int .i64 0 ∧ wr' = wr) (fun _ _ _ => 0)
          case atStart => exact ⟨rfl, rfl, rfl⟩
          case round =>
            obtain ⟨rfl, rfl, rfl⟩ := hrel
            go_wp2
            go_ret2
            first | exact ⟨1, rfl, fun _ => rfl, fun h => by omega, rfl⟩ | (refine ⟨1, rfl, ?_⟩; simp)
        · have hd : decide ((0 : Int) < (c : Int)) = true := by simp; omega
          go_wp2
          go_ret2
          exact ⟨2, rfl, fun h => by omega, fun _ => rfl, rfl⟩

end Go.Proofs.Ytglomemadcdagaa
