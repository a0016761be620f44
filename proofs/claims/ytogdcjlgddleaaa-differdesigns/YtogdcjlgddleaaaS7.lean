/- The walks of divisor, the document's common, and multiplies. -/
import Derived.Test.YtogdcjlgddleaaaS6
namespace Go.Proofs.Ytogdcjlgddleaaa
open Go.RowKit Go.Maps

set_option maxHeartbeats 400000 in
theorem divisor_any (a b : Nat) (w : World) (ha : a < 9223372036854775808) (hb : b < 9223372036854775808) :
    Calls Try.prog 22 #[.int .i64 (a : Int), .int .i64 (b : Int)] w fun e w' => e = .returned (.int .i64 ((Nat.gcd a b : Nat) : Int)) ∧ Below w.heap.size w w' := by
  obtain ⟨z, Hz⟩ : ∃ z, Hid (Nat.gcd a b = z) := ⟨_, rfl⟩
  rw [Hz.out]
  go_enter Try.func22, Try.ntmps22
  go_wp2
  go_loopw [0, 1] (fun x y wr => ∃ a b : Nat, x = .int .i64 (a : Int) ∧ y = .int .i64 (b : Int) ∧ Hid (Nat.gcd a b = z) ∧ a < 9223372036854775808 ∧ b < 9223372036854775808 ∧ Below w.heap.size w wr) (fun _ y _ => (intOf y).toNat)
  case atStart => exact ⟨a, b, rfl, rfl, Hz, ha, hb, Below.refl _ _⟩
  case round =>
    clear Hz ha hb
    obtain ⟨a, b, rfl, rfl, HZ, ha, hb, hB⟩ := hrel
    by_cases h0 : 0 < b
    · have hbi : (0 : Int) < b := by omega
      have hbn : (b : Int) ≠ 0 := by omega
      have hm := Nat.mod_lt a h0
      have hme : (a : Int) % (b : Int) = ((a % b : Nat) : Int) := by simp
      have HZ' : Hid (Nat.gcd b (a % b) = z) := by
        show _ = z
        rw [← HZ.out, Nat.gcd_comm b, ← Nat.gcd_rec, Nat.gcd_comm]
      go_wp2
      go_region
      all_goals
        go_wp2
        go_roundw
        case rel => exact ⟨b, a % b, rfl, by rw [← hme], HZ', hb, by omega, by first | exact bdrewN hB _ | exact hB.drew⟩
        case measure => simp [intOf]; omega
    · obtain rfl : b = 0 := by omega
      have : a = z := by rw [← HZ.out, Nat.gcd_zero_right]
      subst this
      go_wp2
      go_ret
      exact ⟨rfl, hB⟩
set_option maxHeartbeats 400000 in
theorem common_any (a b : Nat) (w : World) (ha : a < 9223372036854775808) (hb : b < 9223372036854775808) :
    Calls Try.prog 24 #[.int .i64 (a : Int), .int .i64 (b : Int)] w fun e w' => e = .returned (.int .i64 ((Nat.gcd a b : Nat) : Int)) ∧ Below w.heap.size w w' := by
  obtain ⟨z, Hz⟩ : ∃ z, Hid (Nat.gcd a b = z) := ⟨_, rfl⟩
  rw [Hz.out]
  go_enter Try.func24, Try.ntmps24
  go_wp2
  go_loopw [0, 1] (fun x y wr => ∃ a b : Nat, x = .int .i64 (a : Int) ∧ y = .int .i64 (b : Int) ∧ Hid (Nat.gcd a b = z) ∧ a < 9223372036854775808 ∧ b < 9223372036854775808 ∧ Below w.heap.size w wr) (fun _ y _ => (intOf y).toNat)
  case atStart => exact ⟨a, b, rfl, rfl, Hz, ha, hb, Below.refl _ _⟩
  case round =>
    clear Hz ha hb
    obtain ⟨a, b, rfl, rfl, HZ, ha, hb, hB⟩ := hrel
    by_cases h0 : 0 < b
    · have hbi : (0 : Int) < b := by omega
      have hbn : (b : Int) ≠ 0 := by omega
      have hm := Nat.mod_lt a h0
      have hme : (a : Int) % (b : Int) = ((a % b : Nat) : Int) := by simp
      have HZ' : Hid (Nat.gcd b (a % b) = z) := by
        show _ = z
        rw [← HZ.out, Nat.gcd_comm b, ← Nat.gcd_rec, Nat.gcd_comm]
      go_wp2
      go_region
      all_goals
        go_wp2
        go_roundw
        case rel => exact ⟨b, a % b, rfl, by rw [← hme], HZ', hb, by omega, by first | exact bdrewN hB _ | exact hB.drew⟩
        case measure => simp [intOf]; omega
    · obtain rfl : b = 0 := by omega
      have : a = z := by rw [← HZ.out, Nat.gcd_zero_right]
      subst this
      go_wp2
      go_ret
      exact ⟨rfl, hB⟩

end Go.Proofs.Ytogdcjlgddleaaa
