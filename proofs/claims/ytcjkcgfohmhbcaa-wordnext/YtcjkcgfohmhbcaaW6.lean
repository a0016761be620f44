/- The document's PrimesOf and BruijnFault, walked. -/
import Derived.Test.YtcjkcgfohmhbcaaW5
namespace Go.Proofs.Ytcjkcgfohmhbcaa
open Go.RowKit

theorem mbN_le (n : Nat) : -1 ≤ mbN n ∧ mbN n ≤ 1 := mbF_le n 2 n 1 (by decide) (by decide)
theorem mul_le1 {m : Int} (p : Nat) (h1 : -1 ≤ m) (h2 : m ≤ 1) : -(p : Int) ≤ m * (p : Int) ∧ m * (p : Int) ≤ p := by
  rcases (show m = -1 ∨ m = 0 ∨ m = 1 by omega) with rfl | rfl | rfl
  · rw [show (-1 : Int) * (p : Int) = -(p : Int) by omega]; omega
  · rw [Int.zero_mul]; omega
  · rw [Int.one_mul]; omega
theorem psZ_no {k n D : Nat} (h1 : 1 ≤ D) (h : ¬ n % D = 0) : psZ k n D = psZ k n (D - 1) := by
  obtain ⟨j, rfl⟩ : ∃ j, D = j + 1 := ⟨D - 1, by omega⟩
  show (if n % (j + 1) = 0 then psZ k n j + mbN (n / (j + 1)) * ((k ^ (j + 1) : Nat) : Int) else psZ k n j) = _
  rw [if_neg h, Nat.add_sub_cancel]
theorem psZ_yes {k n D : Nat} (h1 : 1 ≤ D) (h : n % D = 0) : psZ k n D = psZ k n (D - 1) + mbN (n / D) * ((k ^ D : Nat) : Int) := by
  obtain ⟨j, rfl⟩ : ∃ j, D = j + 1 := ⟨D - 1, by omega⟩
  show (if n % (j + 1) = 0 then psZ k n j + mbN (n / (j + 1)) * ((k ^ (j + 1) : Nat) : Int) else psZ k n j) = _
  rw [if_pos h, Nat.add_sub_cancel]
theorem half_le {D n : Nat} (h : n % D = 0) (h1 : 1 ≤ D) (h2 : D < n) : D ≤ n / 2 := by
  have e : D * (n / D) = n := by have := Nat.div_add_mod n D; rw [h] at this; exact this
  generalize n / D = q at e
  have h3 : 2 ≤ q := by
    rcases Nat.lt_or_ge q 2 with h4 | h4
    · have : q = 0 ∨ q = 1 := by omega
      rcases this with rfl | rfl <;> omega
    · exact h4
  have h5 : D * 2 ≤ D * q := Nat.mul_le_mul_left D h3
  omega
theorem psZ_half {k n : Nat} (hk : 1 ≤ k) : ∀ j, j < n → -((j * k ^ (n / 2) : Nat) : Int) ≤ psZ k n j ∧ psZ k n j ≤ ((j * k ^ (n / 2) : Nat) : Int)
  | 0, _ => ⟨by show _ ≤ (0 : Int); omega, by show (0 : Int) ≤ _; omega⟩
  | j + 1, hj => by
    obtain ⟨h1, h2⟩ := psZ_half (n := n) hk j (by omega)
    have e : (j + 1) * k ^ (n / 2) = j * k ^ (n / 2) + k ^ (n / 2) := Nat.succ_mul _ _
    by_cases hd : n % (j + 1) = 0
    · rw [psZ_yes (by omega) hd, Nat.add_sub_cancel, e]
      have h3 : k ^ (j + 1) ≤ k ^ (n / 2) := Nat.pow_le_pow_right hk (half_le (D := j + 1) (n := n) hd (by omega) hj)
      obtain ⟨h4, h5⟩ := mul_le1 (k ^ (j + 1)) (mbN_le (n / (j + 1))).1 (mbN_le (n / (j + 1))).2
      generalize mbN (n / (j + 1)) * ((k ^ (j + 1) : Nat) : Int) = x at *
      generalize k ^ (j + 1) = a at *
      generalize j * k ^ (n / 2) = b at *
      omega
    · rw [psZ_no (by omega) hd, Nat.add_sub_cancel, e]
      generalize j * k ^ (n / 2) = b at *
      omega
theorem root_le {k n : Nat} (hk : 1 ≤ k) (h : k ^ n ≤ 1000000000000000000) : k ^ (n / 2) ≤ 1000000000 := by
  rcases Nat.lt_or_ge 1000000000 (k ^ (n / 2)) with h1 | h1
  · exfalso
    have h2 : 1000000001 * 1000000001 ≤ k ^ (n / 2) * k ^ (n / 2) := Nat.mul_le_mul h1 h1
    rw [← Nat.pow_add] at h2
    have h3 : k ^ (n / 2 + n / 2) ≤ k ^ n := Nat.pow_le_pow_right hk (by omega)
    omega
  · exact h1
/-- The sums stay small. -/
theorem psZ_small {k n : Nat} (hk : 1 ≤ k) (hn : 1 ≤ n) (hn6 : n ≤ 60) (h : k ^ n ≤ 1000000000000000000) (j : Nat) (hj : j ≤ n) :
    -1100000000000000000 ≤ psZ k n j ∧ psZ k n j ≤ 1100000000000000000 := by
  have hr := root_le hk h
  have hb : ∀ i, i ≤ 60 → i * k ^ (n / 2) ≤ 60 * 1000000000 := fun i hi => Nat.mul_le_mul hi hr
  rcases Nat.lt_or_ge j n with h1 | h1
  · obtain ⟨h2, h3⟩ := psZ_half hk j h1
    have := hb j (by omega)
    generalize j * k ^ (n / 2) = b at *
    omega
  · obtain rfl : j = n := by omega
    obtain ⟨h2, h3⟩ := psZ_half (n := j) hk (j - 1) (by omega)
    have := hb (j - 1) (by omega)
    rw [psZ_yes hn (Nat.mod_self j)]
    obtain ⟨h4, h5⟩ := mul_le1 (k ^ j) (mbN_le (j / j)).1 (mbN_le (j / j)).2
    generalize mbN (j / j) * ((k ^ j : Nat) : Int) = x at *
    generalize (j - 1) * k ^ (j / 2) = b at *
    omega
theorem tdiv_small {s : Int} {n : Nat} {B : Int} (h1 : -B ≤ s) (h2 : s ≤ B) : -B ≤ s.tdiv n ∧ s.tdiv n ≤ B := by
  have h3 : (s.tdiv n).natAbs ≤ s.natAbs := by rw [Int.natAbs_tdiv]; exact Nat.div_le_self _ _
  omega
set_option maxRecDepth 100000 in
set_option maxHeartbeats 8000000 in
theorem PrimesOf_any (k n : Nat) (w : World) (hk1 : 1 ≤ k) (hn1 : 1 ≤ n) (hn60 : n ≤ 60) (h18 : k ^ n ≤ 1000000000000000000) :
    Calls Try.prog 20 #[.int .i64 (k : Int), .int .i64 (n : Int)] w fun e w' => e = .returned (.int .i64 (prZ k n)) ∧ w' = w := by
  have HPS : Hid (∀ j, j ≤ n → -1100000000000000000 ≤ psZ k n j ∧ psZ k n j ≤ 1100000000000000000) := psZ_small hk1 hn1 hn60 h18
  have HPW : Hid (∀ i, i ≤ n → k ^ i ≤ 1000000000000000000) := fun i hi => Nat.le_trans (Nat.pow_le_pow_right hk1 hi) h18
  obtain ⟨z, Hz⟩ : ∃ z, Hid (prZ k n = z) := ⟨_, rfl⟩
  have HZ : Hid ((psZ k n n).tdiv (n : Int) = z) := Hz.out
  have hkk : (k : Int) < 2 ^ 63 := by
    have := Nat.le_trans (Nat.le_self_pow (show n ≠ 0 by omega) k) h18
    omega
  rw [Hz.out]
  have hn0 : ¬ n = 0 := by omega
  clear h18 Hz
  go_enter Try.func20, Try.ntmps20
  go_wp2
  go_loopw [5, 6] (fun sv dv wr => ∃ (D : Nat) (s : Int), dv = .int .i64 (D : Int) ∧ sv = .int .i64 s ∧ 1 ≤ D ∧ D ≤ n + 1 ∧ Hid (psZ k n (D - 1) = s) ∧ wr = w) (fun _ dv _ => (n + 1 - intOf dv).toNat)
  case atStart => exact ⟨1, 0, rfl, rfl, by omega, by omega, rfl, rfl⟩
  case round =>
    obtain ⟨D, s, rfl, rfl, hD1, hDn, HS, e1⟩ := hrel
    subst e1
    have hsm := HPS.out (D - 1) (by omega)
    rw [HS.out] at hsm
    by_cases hle : D ≤ n
    · have hd : decide ((D : Int) ≤ (n : Int)) = true := by simp; omega
      have hD0 : ¬ D = 0 := by omega
      have hDw : IntKind.i64.wrap ((D : Int) + 1) = (D : Int) + 1 := IntWalk.i64_in _ (by omega)
      obtain ⟨a, Ha⟩ : ∃ a, Hid (n % D = a) := ⟨_, rfl⟩
      have ea : (n : Int).tmod (D : Int) = (a : Int) := by rw [← Ha.out]; rfl
      by_cases h0 : a = 0
      · have hae : ((a : Int) == 0) = true := by simp [h0]
        obtain ⟨b, Hb⟩ : ∃ b, Hid (n / D = b) := ⟨_, rfl⟩
        have eb : (n : Int).tdiv (D : Int) = (b : Int) := by rw [← Hb.out]; rfl
        have hbn : b ≤ n := by rw [← Hb.out]; exact Nat.div_le_self _ _
        have hbw : IntKind.i64.wrap (b : Int) = (b : Int) := IntWalk.i64_in _ (by omega)
        have hps := psZ_yes (k := k) hD1 (by rw [Ha.out]; exact h0 : n % D = 0)
        obtain ⟨r, Hr⟩ : ∃ r, Hid (k ^ D = r) := ⟨_, rfl⟩
        have hr18 : r ≤ 1000000000000000000 := by rw [← Hr.out]; exact HPW.out D hle
        obtain ⟨m, Hm⟩ : ∃ m, Hid (mbN b = m) := ⟨_, rfl⟩
        have hm := mbN_le b
        have hmr := mul_le1 r hm.1 hm.2
        rw [Hm.out] at hmr hm
        rw [Hb.out, Hr.out, Hm.out, HS.out] at hps
        obtain ⟨t, Ht⟩ : ∃ t, Hid (m * (r : Int) = t) := ⟨_, rfl⟩
        have et : m * (r : Int) = t := Ht.out
        rw [et] at hmr hps
        have hs2 := HPS.out D hle
        rw [hps] at hs2
        have HS2 : Hid (psZ k n (D + 1 - 1) = s + t) := by show _ = _; rw [Nat.add_sub_cancel]; exact hps
        have htw : IntKind.i64.wrap t = t := IntWalk.i64_in _ (by omega)
        have hstw : IntKind.i64.wrap (s + t) = s + t := IntWalk.i64_in _ (by omega)
        clear h0 hps
        go_wp2
        go_loopw [7, 8] (fun pv iv vr => ∃ (i p : Nat), iv = .int .i64 (i : Int) ∧ pv = .int .i64 (p : Int) ∧ i ≤ D ∧ Hid (k ^ i = p) ∧ vr = wr) (fun _ iv _ => (D - intOf iv).toNat)
        case atStart => exact ⟨0, 1, rfl, rfl, by omega, rfl, rfl⟩
        case round =>
          obtain ⟨i, p, rfl, rfl, hi, HP, e1⟩ := hrel
          subst e1
          by_cases hlt : i < D
          · have hdi : decide ((i : Int) < (D : Int)) = true := by simp; omega
            have hii : (i : Int) < (D : Int) := by omega
            obtain ⟨q, Hq⟩ : ∃ q, Hid (p * k = q) := ⟨_, rfl⟩
            have HP2 : Hid (k ^ (i + 1) = q) := by show _ = _; rw [Nat.pow_succ, HP.out]; exact Hq.out
            have hq18 : q ≤ 1000000000000000000 := by rw [← HP2.out]; exact HPW.out _ (by omega)
            have eq1 : (p : Int) * (k : Int) = (q : Int) := by rw [← Hq.out]; simp
            have hqw : IntKind.i64.wrap (q : Int) = (q : Int) := IntWalk.i64_in _ (by omega)
            go_wp2
            go_roundw
            case rel => exact ⟨i + 1, q, by go_num, rfl, by omega, HP2, trivial⟩
            case measure => simp [intOf]; omega
          · have hdi : decide ((i : Int) < (D : Int)) = false := by simp; omega
            obtain rfl : i = D := by omega
            obtain rfl : r = p := by rw [← Hr.out, ← HP.out]
            go_wp2_with (go_at_call 35; refine (mobius_any b _ (by omega)).mono ?_; rintro e w' ⟨rfl, rfl⟩; rw [Hm.out])
            go_roundw
            case rel => exact ⟨i + 1, s + t, by go_num, rfl, by omega, by omega, HS2, trivial⟩
            case measure => simp [intOf]; omega
      · have hae : ((a : Int) == 0) = false := by simp; omega
        have HS2 : Hid (psZ k n (D + 1 - 1) = s) := by
          show _ = _
          rw [Nat.add_sub_cancel, psZ_no hD1 (by rw [Ha.out]; exact h0)]; exact HS.out
        clear h0
        go_wp2
        go_roundw
        case rel => exact ⟨D + 1, s, by go_num, rfl, by omega, by omega, HS2, trivial⟩
        case measure => simp [intOf]; omega
    · have hd : decide ((D : Int) ≤ (n : Int)) = false := by simp; omega
      have ez : s.tdiv (n : Int) = z := by rw [← HS.out, show D - 1 = n by omega]; exact HZ.out
      have hzz : -1100000000000000000 ≤ z ∧ z ≤ 1100000000000000000 := by
        rw [← ez]
        exact tdiv_small (B := 1100000000000000000) hsm.1 hsm.2
      have hzw : IntKind.i64.wrap z = z := IntWalk.i64_in _ (by omega)
      go_wp2
      go_ret
      exact ⟨rfl, rfl⟩
def bfE (k n : Int) : Nat := if k < 1 ∨ 10 < k ∨ n < 1 then 1 else if 12 < n ∨ 4096 < k.toNat ^ n.toNat then 3 else 0
set_option maxRecDepth 100000 in
set_option maxHeartbeats 8000000 in
theorem BruijnFault_any (kk nn : Int) (w : World) :
    Calls Try.prog 21 #[.int .i64 kk, .int .i64 nn] w fun e w' => e = .returned (.int .i64 (bfE kk nn : Int)) ∧ w' = w := by
  obtain ⟨z, Hz⟩ : ∃ z, Hid (bfE kk nn = z) := ⟨_, rfl⟩
  rw [Hz.out]
  by_cases h1 : kk < 1
  · have HZ : Hid (z = 1) := by show _ = _; rw [← Hz.out]; unfold bfE; rw [if_pos (.inl h1)]
    have hd : decide (kk < 1) = true := by simpa using h1
    rw [HZ.out]
    clear h1
    go_enter Try.func21, Try.ntmps21
    go_wp2
    go_ret
    exact ⟨rfl, rfl⟩
  have hd : decide (kk < 1) = false := by simpa using h1
  by_cases h2 : 10 < kk
  · have HZ : Hid (z = 1) := by show _ = _; rw [← Hz.out]; unfold bfE; rw [if_pos (.inr (.inl h2))]
    have hd2 : decide (10 < kk) = true := by simpa using h2
    rw [HZ.out]
    clear h1 h2
    go_enter Try.func21, Try.ntmps21
    go_wp2
    go_ret
    exact ⟨rfl, rfl⟩
  have hd2 : decide (10 < kk) = false := by simpa using h2
  by_cases h3 : nn < 1
  · have HZ : Hid (z = 1) := by show _ = _; rw [← Hz.out]; unfold bfE; rw [if_pos (.inr (.inr h3))]
    have hd3 : decide (nn < 1) = true := by simpa using h3
    rw [HZ.out]
    clear h1 h2 h3
    go_enter Try.func21, Try.ntmps21
    go_wp2
    go_ret
    exact ⟨rfl, rfl⟩
  have hd3 : decide (nn < 1) = false := by simpa using h3
  by_cases h4 : 12 < nn
  · have HZ : Hid (z = 3) := by show _ = _; rw [← Hz.out]; unfold bfE; rw [if_neg (by omega), if_pos (.inl h4)]
    have hd4 : decide (12 < nn) = true := by simpa using h4
    rw [HZ.out]
    clear h1 h2 h3 h4
    go_enter Try.func21, Try.ntmps21
    go_wp2
    go_ret
    exact ⟨rfl, rfl⟩
  have hd4 : decide (12 < nn) = false := by simpa using h4
  obtain ⟨k, rfl⟩ : ∃ k : Nat, kk = k := ⟨kk.toNat, by omega⟩
  obtain ⟨n, rfl⟩ : ∃ n : Nat, nn = n := ⟨nn.toNat, by omega⟩
  have hk1 : 1 ≤ k := by omega
  have hk10 : k ≤ 10 := by omega
  have hn12 : n ≤ 12 := by omega
  have HZ : Hid (z = if 4096 < k ^ n then 3 else 0) := by
    show _ = _
    rw [← Hz.out]; unfold bfE
    rw [if_neg (by omega), Int.toNat_natCast, Int.toNat_natCast]
    by_cases h : 4096 < k ^ n
    · rw [if_pos h, if_pos (.inr h)]
    · rw [if_neg h, if_neg (by omega)]
  have HGT : Hid (∀ i, i < n → 4096 < k ^ (i + 1) → z = 3) := fun i hi h => by
    have : k ^ (i + 1) ≤ k ^ n := Nat.pow_le_pow_right hk1 hi
    rw [HZ.out, if_pos (by omega)]
  have HLE : Hid (k ^ n ≤ 4096 → z = 0) := fun h => by rw [HZ.out, if_neg (by omega)]
  clear h1 h2 h3 h4 HZ Hz
  go_enter Try.func21, Try.ntmps21
  go_wp2
  go_loopw [5, 6] (fun pv iv wr => ∃ (i p : Nat), iv = .int .i64 (i : Int) ∧ pv = .int .i64 (p : Int) ∧ i ≤ n ∧ Hid (k ^ i = p) ∧ p ≤ 4096 ∧ wr = w) (fun _ iv _ => (n - intOf iv).toNat)
  case atStart => exact ⟨0, 1, rfl, rfl, by omega, rfl, by omega, rfl⟩
  case round =>
    obtain ⟨i, p, rfl, rfl, hi, HP, hp, e1⟩ := hrel
    subst e1
    by_cases hlt : i < n
    · have hdi : decide ((i : Int) < (n : Int)) = true := by simp; omega
      have hii : (i : Int) < (n : Int) := by omega
      obtain ⟨r, Hr⟩ : ∃ r, Hid (p * k = r) := ⟨_, rfl⟩
      have hpk : r ≤ 40960 := by rw [← Hr.out]; exact Nat.mul_le_mul hp hk10
      have er : (p : Int) * (k : Int) = (r : Int) := by rw [← Hr.out]; simp
      have hrw : IntKind.i64.wrap (r : Int) = (r : Int) := IntWalk.i64_in _ (by omega)
      have HP2 : Hid (k ^ (i + 1) = r) := by show _ = _; rw [Nat.pow_succ, HP.out]; exact Hr.out
      by_cases hqp : 4096 < r
      · have hdq : decide ((4096 : Int) < (r : Int)) = true := by simp; omega
        have HZ3 : Hid (z = 3) := HGT.out i hlt (by rw [HP2.out]; exact hqp)
        go_wp2
        go_ret
        exact ⟨by rw [HZ3.out]; rfl, rfl⟩
      · have hdq : decide ((4096 : Int) < (r : Int)) = false := by simp; omega
        go_wp2
        go_roundw
        case rel => exact ⟨i + 1, r, by go_num, rfl, by omega, HP2, by omega, trivial⟩
        case measure => simp [intOf]; omega
    · have hdi : decide ((i : Int) < (n : Int)) = false := by simp; omega
      obtain rfl : i = n := by omega
      have HZ0 : Hid (z = 0) := HLE.out (by rw [HP.out]; exact hp)
      go_wp2
      go_ret
      exact ⟨by rw [HZ0.out]; rfl, rfl⟩
end Go.Proofs.Ytcjkcgfohmhbcaa
