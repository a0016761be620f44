/- The walks of orders, Factorial, rank, Rank, PermRank. -/
import Derived.Test.YtncnaaohihmjnaaPRank
import Derived.Test.YtncnaaohihmjnaaP28
namespace Go.Proofs.Ytncnaaohihmjnaa
open Go.RowKit

/-- A slice no longer than its room. -/
def capOk : Value → Prop
  | .slice _ n c => n ≤ c
  | _ => True

set_option maxHeartbeats 400000 in
theorem orders_any (n : Nat) (w : World) (hn : n ≤ 12) :
    Calls Try.prog 71 #[.int .i64 (n : Int)] w fun e w' => e = .returned (.int .i64 (fac n : Int)) ∧ w' = w := by
  obtain ⟨z, Hz⟩ : ∃ z, Hid (fac n = z) := ⟨_, rfl⟩
  rw [Hz.out]
  go_enter Try.func71, Try.ntmps71
  go_wp2
  go_loop [3, 6] (fun x i => ∃ a k : Nat, x = .int .i64 a ∧ i = .int .i64 k ∧ k ≤ n ∧ Hid (fac k = a)) (fun _ i => (n - intOf i).toNat)
  case atStart => exact ⟨1, 0, rfl, rfl, by omega, (rfl : fac 0 = 1)⟩
  case round =>
    obtain ⟨a, k, rfl, rfl, hk, HA⟩ := hrel
    by_cases hlt : k < n
    · have hki : (k : Int) < n := by omega
      have hdec : decide ((k : Int) < n) = true := by simp; omega
      obtain ⟨b, Hb⟩ : ∃ b, Hid (fac (k + 1) = b) := ⟨_, rfl⟩
      have hbb : b ≤ 479001600 := by rw [← Hb.out]; exact fac_le (by omega)
      have hm : (a : Int) * ((k : Int) + 1) = (b : Int) := by rw [← Hb.out, fac, HA.out]; simp
      go_wp2
      go_round
      case rel => exact ⟨b, k + 1, rfl, by go_num, by omega, Hb⟩
      case measure => simp [intOf]; omega
    · obtain rfl : k = n := by omega
      have hkd : decide ((k : Int) < (k : Int)) = false := by simp
      have : a = z := by rw [← HA.out, Hz.out]
      subst this
      go_wp2
      go_ret
      exact ⟨rfl, rfl⟩

set_option maxHeartbeats 400000 in
theorem Factorial_any (n : Nat) (w : World) (hn : n ≤ 12) :
    Calls Try.prog 43 #[.int .i64 (n : Int)] w fun e w' => e = .returned (.int .i64 (fac n : Int)) ∧ w' = w := by
  obtain ⟨z, Hz⟩ : ∃ z, Hid (fac n = z) := ⟨_, rfl⟩
  rw [Hz.out]
  go_enter Try.func43, Try.ntmps43
  go_wp2
  go_loop [3, 4] (fun x i => ∃ a k : Nat, x = .int .i64 a ∧ i = .int .i64 ((k : Int) + 1) ∧ 1 ≤ k ∧ k ≤ 12 ∧ Hid (fac k = a) ∧ (k ≤ n ∨ (n = 0 ∧ k = 1))) (fun _ i => (n + 1 - intOf i).toNat)
  case atStart => exact ⟨1, 1, rfl, rfl, by omega, by omega, (rfl : fac 1 = 1), by omega⟩
  case round =>
    obtain ⟨a, k, rfl, rfl, hk, hk12, HA, hkn⟩ := hrel
    by_cases hlt : k < n
    · have hki : (k : Int) + 1 ≤ n := by omega
      have hdec : decide ((k : Int) + 1 ≤ n) = true := by simp; omega
      obtain ⟨b, Hb⟩ : ∃ b, Hid (fac (k + 1) = b) := ⟨_, rfl⟩
      have hbb : b ≤ 479001600 := by rw [← Hb.out]; exact fac_le (by omega)
      have hm : (a : Int) * ((k : Int) + 1) = (b : Int) := by rw [← Hb.out, fac, HA.out]; simp
      go_wp2
      go_round
      case rel => exact ⟨b, k + 1, rfl, by go_num, by omega, by omega, Hb, by omega⟩
      case measure => simp [intOf]; omega
    · have hdec : decide ((k : Int) + 1 ≤ n) = false := by simp; omega
      have : a = z := by
        rw [← HA.out, ← Hz.out]
        rcases hkn with h | ⟨h1, h2⟩
        · rw [show k = n by omega]
        · rw [h1, h2]; rfl
      subst this
      go_wp2
      go_ret
      exact ⟨rfl, rfl⟩

end Go.Proofs.Ytncnaaohihmjnaa
