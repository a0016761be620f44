/- The walks of power, powerOf, mobius, divisor, tooMany, RingFault, IsPrime. -/
import Derived.Test.YtmaplmgecohjbaaCRing
import Derived.Test.YtmaplmgecohjbaaPBase
import Derived.BigRegion
/- Bracelets: half of the rings and of those that are their own mirror; nothing of the program. -/
namespace Go.Proofs.Ytmaplmgecohjbaa

/-- The document's rings that are their own mirror. -/
def ownS (n k : Nat) : Nat := if n % 2 = 1 then k ^ ((n + 1) / 2) else k ^ (n / 2) / 2 + k ^ (n / 2 + 1) / 2 + (if k ^ (n / 2) % 2 = 1 ∧ k ^ (n / 2 + 1) % 2 = 1 then 1 else 0)
/-- The exponent of the i-th turning over. -/
def reflE (n i : Nat) : Nat := (n + (if n % 2 = 0 ∧ i % 2 = 0 then 2 else n % 2)) / 2
def reflS (n k : Nat) : Int := sumN (fun i => ((k ^ reflE n i : Nat) : Int)) n
theorem own_two {n k : Nat} (h0 : 0 < n) (h : n % 2 = 0) : 2 * ownS n k = k ^ (n / 2) + k ^ (n / 2 + 1) := by
  unfold ownS
  rw [if_neg (by omega)]
  obtain ⟨m, hm⟩ : ∃ m, n / 2 = m + 1 := ⟨n / 2 - 1, by omega⟩
  rw [hm]
  have e1 : k ^ (m + 1 + 1) = k ^ (m + 1) * k := Nat.pow_succ ..
  have e2 : k ^ (m + 1) = k ^ m * k := Nat.pow_succ ..
  have p1 : k ^ (m + 1 + 1) % 2 = (k ^ (m + 1) % 2) * (k % 2) % 2 := by rw [e1, Nat.mul_mod]
  have p2 : k ^ (m + 1) % 2 = (k ^ m % 2) * (k % 2) % 2 := by rw [e2, Nat.mul_mod]
  rcases Nat.mod_two_eq_zero_or_one k with hk | hk
  · rw [hk, Nat.mul_zero] at p1 p2
    rw [if_neg (by omega)]; omega
  · rw [hk, Nat.mul_one] at p1
    by_cases e : k ^ (m + 1) % 2 = 1
    · rw [if_pos ⟨e, by omega⟩]; omega
    · rw [if_neg (by omega)]; omega
theorem refl_even (k e : Nat) : ∀ m : Nat, sumN (fun i => ((k ^ ((2 * e + (if i % 2 = 0 then 2 else 0)) / 2) : Nat) : Int)) (2 * m) = m * ((k ^ e : Nat) + (k ^ (e + 1) : Nat) : Int)
  | 0 => by simp [sumN]
  | m + 1 => by
    have e1 : (2 * e + (if (2 * m) % 2 = 0 then 2 else 0)) / 2 = e + 1 := by rw [if_pos (by omega)]; omega
    have e2 : (2 * e + (if (2 * m + 1) % 2 = 0 then 2 else 0)) / 2 = e := by rw [if_neg (by omega)]; omega
    rw [show 2 * (m + 1) = 2 * m + 1 + 1 by omega, sumN, sumN, refl_even k e m, e1, e2, Int.natCast_succ, Int.add_mul, Int.one_mul]
    omega
theorem reflS_own {n k : Nat} (h0 : 0 < n) : reflS n k = n * (ownS n k : Int) := by
  unfold reflS
  rcases Nat.mod_two_eq_zero_or_one n with h | h
  · have h2 := own_two (k := k) h0 h
    have e : sumN (fun i => ((k ^ reflE n i : Nat) : Int)) n = sumN (fun i => ((k ^ ((2 * (n / 2) + (if i % 2 = 0 then 2 else 0)) / 2) : Nat) : Int)) (2 * (n / 2)) := by
      have hn : 2 * (n / 2) = n := by omega
      rw [hn]
      refine sumN_congr fun i _ => ?_
      unfold reflE
      by_cases hi : i % 2 = 0
      · rw [if_pos ⟨h, hi⟩, if_pos hi]
      · rw [if_neg (by omega), if_neg hi, h]
    rw [e, refl_even]
    have h3 : ((k ^ (n / 2) : Nat) : Int) + ((k ^ (n / 2 + 1) : Nat) : Int) = 2 * (ownS n k : Int) := by omega
    rw [h3]
    have hn : (n : Int) = ((n / 2 : Nat) : Int) * 2 := by omega
    conv => rhs; rw [hn]
    rw [Int.mul_assoc]
  · have e : sumN (fun i => ((k ^ reflE n i : Nat) : Int)) n = sumN (fun _ => ((k ^ ((n + 1) / 2) : Nat) : Int)) n := by
      refine sumN_congr fun i _ => ?_
      unfold reflE
      rw [if_neg (by omega), h]
    rw [e, sumN_const]
    unfold ownS
    rw [if_pos h]
theorem turnS_nonneg (n k : Nat) : 0 ≤ turnS n k := sumN_nonneg fun _ _ => Int.natCast_nonneg _
theorem docB_nonneg {n k : Nat} (h0 : 0 < n) (h : n < 60) : 0 ≤ docB n k := by
  have e := ring_eq (k := k) h0 h
  have p := turnS_nonneg n k
  rw [← e] at p
  by_cases hb : 0 ≤ docB n k
  · exact hb
  · have : docB n k * n < 0 := Int.mul_neg_of_neg_of_pos (by omega) (by omega)
    omega
/-- The document's bracelets. -/
def docBr (n k : Nat) : Int := (docB n k).tdiv 2 + (ownS n k : Int).tdiv 2 + ((docB n k).tmod 2 + (ownS n k : Int).tmod 2).tdiv 2
theorem brac_eq {n k : Nat} (h0 : 0 < n) (h : n < 60) : (turnS n k + reflS n k).tdiv (2 * n : Int) = docBr n k := by
  have hb := docB_nonneg (k := k) h0 h
  rw [reflS_own h0, ← ring_eq h0 h]
  have e : docB n k * (n : Int) + n * (ownS n k : Int) = n * (docB n k + ownS n k) := by rw [Int.mul_add, Int.mul_comm (docB n k)]
  rw [e, show (2 * n : Int) = n * 2 from Int.mul_comm _ _, Int.mul_tdiv_mul_of_pos _ _ (by omega)]
  unfold docBr
  generalize docB n k = b at *
  generalize ownS n k = o at *
  rw [Int.tdiv_eq_ediv_of_nonneg (by omega), Int.tdiv_eq_ediv_of_nonneg (by omega), Int.tdiv_eq_ediv_of_nonneg (by omega), Int.tmod_eq_emod_of_nonneg (by omega), Int.tmod_eq_emod_of_nonneg (by omega), Int.tdiv_eq_ediv_of_nonneg (by omega)]
  omega

/-! ### nothing is too great -/
theorem turnS_le {n k : Nat} (h0 : 0 < n) (hk : 2 ≤ k) : turnS n k ≤ ((k ^ n : Nat) : Int) + n * ((k ^ (n / 2) : Nat) : Int) := by
  unfold turnS
  obtain ⟨m, rfl⟩ : ∃ m, n = m + 1 := ⟨n - 1, by omega⟩
  have e : ∀ m', m' ≤ m → sumN (fun i => ((k ^ Nat.gcd (m + 1) i : Nat) : Int)) (m' + 1) ≤ ((k ^ (m + 1) : Nat) : Int) + (m' : Int) * ((k ^ ((m + 1) / 2) : Nat) : Int) := by
    intro m'
    induction m' with
    | zero => intro _; simp [sumN]
    | succ j ih =>
      intro hj
      rw [sumN]
      have i1 := ih (by omega)
      have hg : Nat.gcd (m + 1) (j + 1) ≤ (m + 1) / 2 := by
        obtain ⟨q, hq⟩ := Nat.gcd_dvd_left (m + 1) (j + 1)
        have g1 := Nat.gcd_le_right (n := j + 1) (m + 1) (by omega)
        have hq2 : 2 ≤ q := by
          rcases q with _ | _ | q
          · omega
          · omega
          · omega
        have := Nat.mul_le_mul_left (Nat.gcd (m + 1) (j + 1)) hq2
        omega
      have hp : k ^ Nat.gcd (m + 1) (j + 1) ≤ k ^ ((m + 1) / 2) := Nat.pow_le_pow_right (by omega) hg
      rw [Int.natCast_succ, Int.add_mul, Int.one_mul]; omega
  have := e m (Nat.le_refl _)
  refine Int.le_trans this ?_
  have h1 : (0 : Int) ≤ ((k ^ ((m + 1) / 2) : Nat) : Int) := Int.natCast_nonneg _
  rw [Int.natCast_succ, Int.add_mul, Int.one_mul]; omega
/-- Of two colours and more there are few beads. -/
theorem few_beads {n k : Nat} (hk : 2 ≤ k) (h : k ^ n ≤ 1000000000000000000) : n < 60 := by
  by_cases e : n < 60
  · exact e
  · have h1 : 2 ^ 60 ≤ 2 ^ n := Nat.pow_le_pow_right (by omega) (by omega)
    have h2 : 2 ^ n ≤ k ^ n := Nat.pow_le_pow_left hk n
    have h3 : (1000000000000000000 : Nat) < 2 ^ 60 := by decide
    omega
theorem half_small {n k : Nat} (hk : 2 ≤ k) (h : k ^ n ≤ 1000000000000000000) : k ^ (n / 2) ≤ 1000000000 := by
  by_cases e : k ^ (n / 2) ≤ 1000000000
  · exact e
  · have h1 : k ^ (n / 2) * k ^ (n / 2) ≤ k ^ n := by
      rw [← Nat.pow_add]; exact Nat.pow_le_pow_right (by omega) (by omega)
    have h2 : 1000000001 * 1000000001 ≤ k ^ (n / 2) * k ^ (n / 2) := Nat.mul_le_mul (by omega) (by omega)
    omega
theorem turnS_small {n k : Nat} (hk : 2 ≤ k) (h0 : 0 < n) (h : k ^ n ≤ 1000000000000000000) : turnS n k ≤ 1000000060000000000 := by
  have h1 := turnS_le h0 hk
  have h2 := half_small hk h
  have h3 := few_beads hk h
  have h4 : (n : Int) * ((k ^ (n / 2) : Nat) : Int) ≤ 60 * 1000000000 := by
    rw [← Int.natCast_mul]
    have := Nat.mul_le_mul (show n ≤ 60 by omega) h2
    omega
  omega
theorem own_small {n k : Nat} (hk : 2 ≤ k) (h0 : 0 < n) (h : k ^ n ≤ 1000000000000000000) : (n : Int) * (ownS n k : Int) ≤ 3000000000000000000 := by
  have h3 := few_beads hk h
  by_cases e1 : n ≤ 2
  · have hs : ownS n k ≤ k ^ n := by
      rcases (show n = 1 ∨ n = 2 by omega) with rfl | rfl
      · exact Nat.le_refl _
      · have := own_two (n := 2) (k := k) (by omega) rfl
        have e : k ^ (2 / 2) ≤ k ^ 2 := Nat.pow_le_pow_right (by omega) (by omega)
        have e' : k ^ (2 / 2 + 1) = k ^ 2 := rfl
        omega
    have := Nat.mul_le_mul e1 hs
    rw [← Int.natCast_mul]; omega
  · -- k ^ (n / 2 + 1) times k ^ (n / 2 - 1) is at most k ^ n
    have hs : ownS n k ≤ k ^ (n / 2 + 1) := by
      rcases Nat.mod_two_eq_zero_or_one n with h' | h'
      · have := own_two (k := k) h0 h'
        have e : k ^ (n / 2) ≤ k ^ (n / 2 + 1) := Nat.pow_le_pow_right (by omega) (by omega)
        omega
      · unfold ownS; rw [if_pos h', show (n + 1) / 2 = n / 2 + 1 by omega]; exact Nat.le_refl _
    have h5 : k ^ (n / 2 + 1) * 2 ^ (n / 2 - 1) ≤ k ^ n := by
      refine Nat.le_trans (Nat.mul_le_mul_left _ (Nat.pow_le_pow_left hk _)) ?_
      rw [← Nat.pow_add]; exact Nat.pow_le_pow_right (by omega) (by omega)
    have h6 : ∀ n, n < 60 → 2 < n → n ≤ 3 * 2 ^ (n / 2 - 1) := by decide
    have h7 := h6 n h3 (by omega)
    have h8 : n * ownS n k ≤ 3 * 2 ^ (n / 2 - 1) * k ^ (n / 2 + 1) := Nat.mul_le_mul h7 hs
    have h9 : 3 * 2 ^ (n / 2 - 1) * k ^ (n / 2 + 1) = 3 * (k ^ (n / 2 + 1) * 2 ^ (n / 2 - 1)) := by rw [Nat.mul_assoc, Nat.mul_comm (2 ^ (n / 2 - 1))]
    rw [← Int.natCast_mul]; omega
theorem reflS_small {n k : Nat} (hk : 2 ≤ k) (h0 : 0 < n) (h : k ^ n ≤ 1000000000000000000) : reflS n k ≤ 3000000000000000000 := by
  rw [reflS_own h0]; exact own_small hk h0 h

end Go.Proofs.Ytmaplmgecohjbaa

namespace Go.Proofs.Ytmaplmgecohjbaa
open Go.RowKit

theorem pow_up {b i n : Nat} (hb : 0 < b) (h : i ≤ n) : b ^ i ≤ b ^ n := Nat.pow_le_pow_right hb h

set_option maxHeartbeats 400000 in
theorem power_any (b n : Nat) (w : World) (hb : 0 < b) (h : b ^ n < 9223372036854775808) (hn : n < 9223372036854775807) :
    Calls Try.prog 66 #[.int .i64 (b : Int), .int .i64 (n : Int)] w fun e w' => e = .returned (.int .i64 ((b ^ n : Nat) : Int)) ∧ w' = w := by
  obtain ⟨z, Hz⟩ : ∃ z, Hid (b ^ n = z) := ⟨_, rfl⟩
  have HL : Hid (b ^ n < 9223372036854775808) := h
  clear h
  rw [Hz.out]
  go_enter Try.func66, Try.ntmps66
  go_wp2
  go_loop [5, 7] (fun x i => ∃ a k : Nat, x = .int .i64 a ∧ i = .int .i64 (k : Int) ∧ k ≤ n ∧ Hid (b ^ k = a)) (fun _ i => (n - intOf i).toNat)
  case atStart => exact ⟨1, 0, rfl, rfl, by omega, (Nat.pow_zero b : b ^ 0 = 1)⟩
  case round =>
    obtain ⟨a, k, rfl, rfl, hkn, HA⟩ := hrel
    by_cases hlt : k < n
    · have hki : (k : Int) < n := by omega
      have hdec : decide ((k : Int) < n) = true := by simp; omega
      obtain ⟨c, Hc⟩ : ∃ c, Hid (b ^ (k + 1) = c) := ⟨_, rfl⟩
      have hbb : c < 9223372036854775808 := by rw [← Hc.out]; exact Nat.lt_of_le_of_lt (pow_up hb (by omega)) HL.out
      have hm : (a : Int) * (b : Int) = (c : Int) := by rw [← Hc.out, Nat.pow_succ, HA.out]; simp
      go_wp2
      go_round
      case rel => exact ⟨c, k + 1, rfl, by go_num, by omega, Hc⟩
      case measure => simp [intOf]; omega
    · have hdec : decide ((k : Int) < n) = false := by simp; omega
      have : a = z := by
        rw [← HA.out, ← Hz.out, show k = n by omega]
      subst this
      go_wp2
      go_ret
      exact ⟨rfl, rfl⟩

set_option maxHeartbeats 400000 in
theorem powerOf_any (b n : Nat) (w : World) (hb : 0 < b) (h : b ^ n < 9223372036854775808) (hn : n < 9223372036854775807) :
    Calls Try.prog 32 #[.int .i64 (b : Int), .int .i64 (n : Int)] w fun e w' => e = .returned (.int .i64 ((b ^ n : Nat) : Int)) ∧ w' = w := by
  obtain ⟨z, Hz⟩ : ∃ z, Hid (b ^ n = z) := ⟨_, rfl⟩
  have HL : Hid (b ^ n < 9223372036854775808) := h
  clear h
  rw [Hz.out]
  by_cases h1 : b = 1
  · subst h1
    have hz : z = 1 := by rw [← Hz.out, Nat.one_pow]
    subst hz
    by_cases hn0 : 0 < n
    · have hni : (0 : Int) < n := by omega
      go_enter Try.func32, Try.ntmps32
      go_wp2
      go_loop [5, 6] (fun x i => x = .int .i64 1 ∧ i = .int .i64 0) (fun _ _ => 0)
      case atStart => exact ⟨rfl, rfl⟩
      case round =>
        obtain ⟨rfl, rfl⟩ := hrel
        go_wp2
        go_ret
        exact ⟨rfl, rfl⟩
    · obtain rfl : n = 0 := by omega
      go_enter Try.func32, Try.ntmps32
      go_wp2
      go_loop [5, 6] (fun x i => x = .int .i64 1 ∧ i = .int .i64 0) (fun _ _ => 0)
      case atStart => exact ⟨rfl, rfl⟩
      case round =>
        obtain ⟨rfl, rfl⟩ := hrel
        go_wp2
        go_ret
        exact ⟨rfl, rfl⟩
  · have hb1 : (1 : Int) < b := by omega
    have hbd : decide ((1 : Int) < b) = true := by simp; omega
    go_enter Try.func32, Try.ntmps32
    go_wp2
    go_loop [5, 6] (fun x i => ∃ a k : Nat, x = .int .i64 a ∧ i = .int .i64 (k : Int) ∧ k ≤ n ∧ Hid (b ^ k = a)) (fun _ i => (n - intOf i).toNat)
    case atStart => exact ⟨1, 0, rfl, rfl, by omega, (Nat.pow_zero b : b ^ 0 = 1)⟩
    case round =>
      obtain ⟨a, k, rfl, rfl, hkn, HA⟩ := hrel
      by_cases hlt : k < n
      · have hki : (k : Int) < n := by omega
        have hdec : decide ((k : Int) < n) = true := by simp; omega
        obtain ⟨c, Hc⟩ : ∃ c, Hid (b ^ (k + 1) = c) := ⟨_, rfl⟩
        have hbb : c < 9223372036854775808 := by rw [← Hc.out]; exact Nat.lt_of_le_of_lt (pow_up hb (by omega)) HL.out
        have hm : (a : Int) * (b : Int) = (c : Int) := by rw [← Hc.out, Nat.pow_succ, HA.out]; simp
        go_wp2
        go_round
        case rel => exact ⟨c, k + 1, rfl, by go_num, by omega, Hc⟩
        case measure => simp [intOf]; omega
      · have hdec : decide ((k : Int) < n) = false := by simp; omega
        have : a = z := by
          rw [← HA.out, ← Hz.out, show k = n by omega]
        subst this
        go_wp2
        go_ret
        exact ⟨rfl, rfl⟩

set_option maxHeartbeats 400000 in
theorem divisor_any (a b : Nat) (w : World) (ha : a < 9223372036854775808) (hb : b < 9223372036854775808) :
    Calls Try.prog 55 #[.int .i64 (a : Int), .int .i64 (b : Int)] w fun e w' => e = .returned (.int .i64 ((Nat.gcd a b : Nat) : Int)) ∧ Below w.heap.size w w' := by
  obtain ⟨z, Hz⟩ : ∃ z, Hid (Nat.gcd a b = z) := ⟨_, rfl⟩
  rw [Hz.out]
  go_enter Try.func55, Try.ntmps55
  go_wp2
  go_loopw [0, 1] (fun x y wr => ∃ a b : Nat, x = .int .i64 (a : Int) ∧ y = .int .i64 (b : Int) ∧ Hid (Nat.gcd a b = z) ∧ a < 9223372036854775808 ∧ b < 9223372036854775808 ∧ Below w.heap.size w wr) (fun _ y _ => (intOf y).toNat)
  case atStart => exact ⟨a, b, rfl, rfl, Hz, ha, hb, Below.refl _ _⟩
  case round =>
    clear Hz ha hb
    obtain ⟨a, b, rfl, rfl, HZ, ha, hb, hB⟩ := hrel
    by_cases h0 : 0 < b
    · have hbi : (0 : Int) < b := by omega
      have hbn : (b : Int) ≠ 0 := by omega
      have hm := Nat.mod_lt a h0
      have hme : (a : Int) % (b : Int) = ((a % b : Nat) : Int) := by simp
      have HZ' : Hid (Nat.gcd b (a % b) = z) := by
        show _ = z
        rw [← HZ.out, Nat.gcd_comm b, ← Nat.gcd_rec, Nat.gcd_comm]
      go_wp2
      go_region
      all_goals
        go_wp2
        go_roundw
        case rel => exact ⟨b, a % b, rfl, by rw [← hme], HZ', hb, by omega, by first | exact bdrewN hB _ | exact hB.drew⟩
        case measure => simp [intOf]; omega
    · obtain rfl : b = 0 := by omega
      have : a = z := by rw [← HZ.out, Nat.gcd_zero_right]
      subst this
      go_wp2
      go_ret
      exact ⟨rfl, hB⟩

set_option maxHeartbeats 400000 in
theorem mobius_any (n : Nat) (w : World) (hn : n < 60) :
    Calls Try.prog 31 #[.int .i64 (n : Int)] w fun e w' => e = .returned (.int .i64 (mob n)) ∧ w' = w := by
  obtain ⟨z, Hz⟩ : ∃ z, Hid (mob n = z) := ⟨_, rfl⟩
  rw [Hz.out]
  go_enter Try.func31, Try.ntmps31
  go_wp2
  go_loop [0, 3, 4] (fun x m q => ∃ (a p f : Nat) (s : Int), x = .int .i64 (a : Int) ∧ m = .int .i64 s ∧ q = .int .i64 (p : Int) ∧ 2 ≤ p ∧ a < 60 ∧ a < p + f ∧ -1 ≤ s ∧ s ≤ 1 ∧ Hid (mobG f a p s = z)) (fun x _ q => (intOf x + 1 - intOf q).toNat)
  case atStart => exact ⟨n, 2, n, 1, rfl, rfl, rfl, by omega, hn, by omega, by omega, by omega, Hz⟩
  case round =>
    clear Hz hn
    obtain ⟨a, p, f, s, rfl, rfl, rfl, hp, ha, haf, hs1, hs2, HZ⟩ := hrel
    by_cases hle : p ≤ a
    · have hpi : (p : Int) ≤ a := by omega
      obtain ⟨f, rfl⟩ : ∃ g, f = g + 1 := ⟨f - 1, by omega⟩
      have h := HZ.out
      rw [mobG, if_pos hle] at h
      have hmi : (a : Int) % (p : Int) = ((a % p : Nat) : Int) := by simp
      by_cases hm : a % p = 0
      · rw [if_pos hm] at h
        have hb : ((a : Int) % (p : Int) == 0) = true := by rw [hmi]; simp; omega
        have hdv : (a : Int) / (p : Int) = ((a / p : Nat) : Int) := by simp
        have hdl : a / p ≤ a := Nat.div_le_self _ _
        have hml : a / p < a := Nat.div_lt_self (by omega) (by omega)
        have hmi2 : ((a / p : Nat) : Int) % (p : Int) = ((a / p % p : Nat) : Int) := by simp
        clear hmi
        obtain ⟨c, Hc⟩ : ∃ c, Hid (a / p = c) := ⟨_, rfl⟩
        rw [Hc.out] at hdv hdl hml hmi2 h
        by_cases hm2 : c % p = 0
        · rw [if_pos hm2] at h
          subst h
          have hb2 : ((c : Int) % (p : Int) == 0) = true := by rw [hmi2]; simp; omega
          clear hmi2
          go_wp2
          go_ret
          exact ⟨rfl, rfl⟩
        · rw [if_neg hm2] at h
          have HN : Hid (mobG f c (p + 1) (-s) = z) := h
          clear h
          have hb2 : ((c : Int) % (p : Int) == 0) = false := by rw [hmi2]; simp; omega
          clear hmi2
          go_wp2
          go_round
          case rel => exact ⟨c, p + 1, f, -s, rfl, by go_num, by go_num, by omega, by omega, by omega, by omega, by omega, HN⟩
          case measure => simp [intOf]; omega
      · rw [if_neg hm] at h
        have HN : Hid (mobG f a (p + 1) s = z) := h
        clear h
        have hb : ((a : Int) % (p : Int) == 0) = false := by rw [hmi]; simp; omega
        clear hmi
        go_wp2
        go_round
        case rel => exact ⟨a, p + 1, f, s, rfl, rfl, by go_num, by omega, by omega, by omega, by omega, by omega, HN⟩
        case measure => simp [intOf]; omega
    · have hpi : ¬ (p : Int) ≤ a := by omega
      have : s = z := by
        have h := HZ.out
        cases f with
        | zero => rw [mobG] at h; exact h
        | succ f => rw [mobG, if_neg hle] at h; exact h
      subst this
      go_wp2
      go_ret
      exact ⟨rfl, rfl⟩

end Go.Proofs.Ytmaplmgecohjbaa
