/- The walks of power, powerOf, mobius, divisor, tooMany, RingFault, IsPrime. -/
import Derived.Test.YtmaplmgecohjbaaPBase
import Derived.Test.YtmaplmgecohjbaaCBrac
import Derived.BigRegion
namespace Go.Proofs.Ytmaplmgecohjbaa
open Go.RowKit

theorem pow_up {b i n : Nat} (hb : 0 < b) (h : i ≤ n) : b ^ i ≤ b ^ n := Nat.pow_le_pow_right hb h

set_option maxHeartbeats 400000 in
theorem power_any (b n : Nat) (w : World) (hb : 0 < b) (h : b ^ n < 9223372036854775808) (hn : n < 9223372036854775807) :
    Calls Try.prog 66 #[.int .i64 (b : Int), .int .i64 (n : Int)] w fun e w' => e = .returned (.int .i64 ((b ^ n : Nat) : Int)) ∧ w' = w := by
  obtain ⟨z, Hz⟩ : ∃ z, Hid (b ^ n = z) := ⟨_, rfl⟩
  have HL : Hid (b ^ n < 9223372036854775808) := h
  clear h
  rw [Hz.out]
  go_enter Try.func66, Try.ntmps66
  go_wp2
  go_loop [5, 7] (fun x i => ∃ a k : Nat, x = .int .i64 a ∧ i = .int .i64 (k : Int) ∧ k ≤ n ∧ Hid (b ^ k = a)) (fun _ i => (n - intOf i).toNat)
  case atStart => exact ⟨1, 0, rfl, rfl, by omega, (Nat.pow_zero b : b ^ 0 = 1)⟩
  case round =>
    obtain ⟨a, k, rfl, rfl, hkn, HA⟩ := hrel
    by_cases hlt : k < n
    · have hki : (k : Int) < n := by omega
      have hdec : decide ((k : Int) < n) = true := by simp; omega
      obtain ⟨c, Hc⟩ : ∃ c, Hid (b ^ (k + 1) = c) := ⟨_, rfl⟩
      have hbb : c < 9223372036854775808 := by rw [← Hc.out]; exact Nat.lt_of_le_of_lt (pow_up hb (by omega)) HL.out
      have hm : (a : Int) * (b : Int) = (c : Int) := by rw [← Hc.out, Nat.pow_succ, HA.out]; simp
      go_wp2
      go_round
      case rel => exact ⟨c, k + 1, rfl, by go_num, by omega, Hc⟩
      case measure => simp [intOf]; omega
    · have hdec : decide ((k : Int) < n) = false := by simp; omega
      have : a = z := by
        rw [← HA.out, ← Hz.out, show k = n by omega]
      subst this
      go_wp2
      go_ret
      exact ⟨rfl, rfl⟩

set_option maxHeartbeats 400000 in
theorem powerOf_any (b n : Nat) (w : World) (hb : 0 < b) (h : b ^ n < 9223372036854775808) (hn : n < 9223372036854775807) :
    Calls Try.prog 32 #[.int .i64 (b : Int), .int .i64 (n : Int)] w fun e w' => e = .returned (.int .i64 ((b ^ n : Nat) : Int)) ∧ w' = w := by
  obtain ⟨z, Hz⟩ : ∃ z, Hid (b ^ n = z) := ⟨_, rfl⟩
  have HL : Hid (b ^ n < 9223372036854775808) := h
  clear h
  rw [Hz.out]
  by_cases h1 : b = 1
  · subst h1
    have hz : z = 1 := by rw [← Hz.out, Nat.one_pow]
    subst hz
    by_cases hn0 : 0 < n
    · have hni : (0 : Int) < n := by omega
      go_enter Try.func32, Try.ntmps32
      go_wp2
      go_loop [5, 6] (fun x i => x = .int .i64 1 ∧ i = .int .i64 0) (fun _ _ => 0)
      case atStart => exact ⟨rfl, rfl⟩
      case round =>
        obtain ⟨rfl, rfl⟩ := hrel
        go_wp2
        go_ret
        exact ⟨rfl, rfl⟩
    · obtain rfl : n = 0 := by omega
      go_enter Try.func32, Try.ntmps32
      go_wp2
      go_loop [5, 6] (fun x i => x = .int .i64 1 ∧ i = .int .i64 0) (fun _ _ => 0)
      case atStart => exact ⟨rfl, rfl⟩
      case round =>
        obtain ⟨rfl, rfl⟩ := hrel
        go_wp2
        go_ret
        exact ⟨rfl, rfl⟩
  · have hb1 : (1 : Int) < b := by omega
    have hbd : decide ((1 : Int) < b) = true := by simp; omega
    go_enter Try.func32, Try.ntmps32
    go_wp2
    go_loop [5, 6] (fun x i => ∃ a k : Nat, x = .int .i64 a ∧ i = .int .i64 (k : Int) ∧ k ≤ n ∧ Hid (b ^ k = a)) (fun _ i => (n - intOf i).toNat)
    case atStart => exact ⟨1, 0, rfl, rfl, by omega, (Nat.pow_zero b : b ^ 0 = 1)⟩
    case round =>
      obtain ⟨a, k, rfl, rfl, hkn, HA⟩ := hrel
      by_cases hlt : k < n
      · have hki : (k : Int) < n := by omega
        have hdec : decide ((k : Int) < n) = true := by simp; omega
        obtain ⟨c, Hc⟩ : ∃ c, Hid (b ^ (k + 1) = c) := ⟨_, rfl⟩
        have hbb : c < 9223372036854775808 := by rw [← Hc.out]; exact Nat.lt_of_le_of_lt (pow_up hb (by omega)) HL.out
        have hm : (a : Int) * (b : Int) = (c : Int) := by rw [← Hc.out, Nat.pow_succ, HA.out]; simp
        go_wp2
        go_round
        case rel => exact ⟨c, k + 1, rfl, by go_num, by omega, Hc⟩
        case measure => simp [intOf]; omega
      · have hdec : decide ((k : Int) < n) = false := by simp; omega
        have : a = z := by
          rw [← HA.out, ← Hz.out, show k = n by omega]
        subst this
        go_wp2
        go_ret
        exact ⟨rfl, rfl⟩

set_option maxHeartbeats 400000 in
theorem divisor_any (a b : Nat) (w : World) (ha : a < 9223372036854775808) (hb : b < 9223372036854775808) :
    Calls Try.prog 55 #[.int .i64 (a : Int), .int .i64 (b : Int)] w fun e w' => e = .returned (.int .i64 ((Nat.gcd a b : Nat) : Int)) ∧ Below w.heap.size w w' := by
  obtain ⟨z, Hz⟩ : ∃ z, Hid (Nat.gcd a b = z) := ⟨_, rfl⟩
  rw [Hz.out]
  go_enter Try.func55, Try.ntmps55
  go_wp2
  go_loopw [0, 1] (fun x y wr => ∃ a b : Nat, x = .int .i64 (a : Int) ∧ y = .int .i64 (b : Int) ∧ Hid (Nat.gcd a b = z) ∧ a < 9223372036854775808 ∧ b < 9223372036854775808 ∧ Below w.heap.size w wr) (fun _ y _ => (intOf y).toNat)
  case atStart => exact ⟨a, b, rfl, rfl, Hz, ha, hb, Below.refl _ _⟩
  case round =>
    clear Hz ha hb
    obtain ⟨a, b, rfl, rfl, HZ, ha, hb, hB⟩ := hrel
    by_cases h0 : 0 < b
    · have hbi : (0 : Int) < b := by omega
      have hbn : (b : Int) ≠ 0 := by omega
      have hm := Nat.mod_lt a h0
      have hme : (a : Int) % (b : Int) = ((a % b : Nat) : Int) := by simp
      have HZ' : Hid (Nat.gcd b (a % b) = z) := by
        show _ = z
        rw [← HZ.out, Nat.gcd_comm b, ← Nat.gcd_rec, Nat.gcd_comm]
      go_wp2
      go_region
      all_goals
        go_wp2
        go_roundw
        case rel => exact ⟨b, a % b, rfl, by rw [← hme], HZ', hb, by omega, by first | exact bdrewN hB _ | exact hB.drew⟩
        case measure => simp [intOf]; omega
    · obtain rfl : b = 0 := by omega
      have : a = z := by rw [← HZ.out, Nat.gcd_zero_right]
      subst this
      go_wp2
      go_ret
      exact ⟨rfl, hB⟩

set_option maxHeartbeats 400000 in
theorem mobius_any (n : Nat) (w : World) (hn : n < 60) :
    Calls Try.prog 31 #[.int .i64 (n : Int)] w fun e w' => e = .returned (.int .i64 (mob n)) ∧ w' = w := by
  obtain ⟨z, Hz⟩ : ∃ z, Hid (mob n = z) := ⟨_, rfl⟩
  rw [Hz.out]
  go_enter Try.func31, Try.ntmps31
  go_wp2
  go_loop [0, 3, 4] (fun x m q => ∃ (a p f : Nat) (s : Int), x = .int .i64 (a : Int) ∧ m = .int .i64 s ∧ q = .int .i64 (p : Int) ∧ 2 ≤ p ∧ a < 60 ∧ a < p + f ∧ -1 ≤ s ∧ s ≤ 1 ∧ Hid (mobG f a p s = z)) (fun x _ q => (intOf x + 1 - intOf q).toNat)
  case atStart => exact ⟨n, 2, n, 1, rfl, rfl, rfl, by omega, hn, by omega, by omega, by omega, Hz⟩
  case round =>
    clear Hz hn
    obtain ⟨a, p, f, s, rfl, rfl, rfl, hp, ha, haf, hs1, hs2, HZ⟩ := hrel
    by_cases hle : p ≤ a
    · have hpi : (p : Int) ≤ a := by omega
      obtain ⟨f, rfl⟩ : ∃ g, f = g + 1 := ⟨f - 1, by omega⟩
      have h := HZ.out
      rw [mobG, if_pos hle] at h
      have hmi : (a : Int) % (p : Int) = ((a % p : Nat) : Int) := by simp
      by_cases hm : a % p = 0
      · rw [if_pos hm] at h
        have hb : ((a : Int) % (p : Int) == 0) = true := by rw [hmi]; simp; omega
        have hdv : (a : Int) / (p : Int) = ((a / p : Nat) : Int) := by simp
        have hdl : a / p ≤ a := Nat.div_le_self _ _
        have hml : a / p < a := Nat.div_lt_self (by omega) (by omega)
        have hmi2 : ((a / p : Nat) : Int) % (p : Int) = ((a / p % p : Nat) : Int) := by simp
        clear hmi
        obtain ⟨c, Hc⟩ : ∃ c, Hid (a / p = c) := ⟨_, rfl⟩
        rw [Hc.out] at hdv hdl hml hmi2 h
        by_cases hm2 : c % p = 0
        · rw [if_pos hm2] at h
          subst h
          have hb2 : ((c : Int) % (p : Int) == 0) = true := by rw [hmi2]; simp; omega
          clear hmi2
          go_wp2
          go_ret
          exact ⟨rfl, rfl⟩
        · rw [if_neg hm2] at h
          have HN : Hid (mobG f c (p + 1) (-s) = z) := h
          clear h
          have hb2 : ((c : Int) % (p : Int) == 0) = false := by rw [hmi2]; simp; omega
          clear hmi2
          go_wp2
          go_round
          case rel => exact ⟨c, p + 1, f, -s, rfl, by go_num, by go_num, by omega, by omega, by omega, by omega, by omega, HN⟩
          case measure => simp [intOf]; omega
      · rw [if_neg hm] at h
        have HN : Hid (mobG f a (p + 1) s = z) := h
        clear h
        have hb : ((a : Int) % (p : Int) == 0) = false := by rw [hmi]; simp; omega
        clear hmi
        go_wp2
        go_round
        case rel => exact ⟨a, p + 1, f, s, rfl, rfl, by go_num, by omega, by omega, by omega, by omega, by omega, HN⟩
        case measure => simp [intOf]; omega
    · have hpi : ¬ (p : Int) ≤ a := by omega
      have : s = z := by
        have h := HZ.out
        cases f with
        | zero => rw [mobG] at h; exact h
        | succ f => rw [mobG, if_neg hle] at h; exact h
      subst this
      go_wp2
      go_ret
      exact ⟨rfl, rfl⟩

end Go.Proofs.Ytmaplmgecohjbaa
