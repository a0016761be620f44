/- The walks of tooMany, checkRing, RingFault, IsPrime. -/
import Derived.Test.YtmaplmgecohjbaaC1
namespace Go.Proofs.Ytmaplmgecohjbaa
open Go.RowKit

/-- What is wrong with so many beads of so many colours. -/
def ringF (n k : Int) : Int := if n < 1 ∨ k < 1 then 1 else if k = 1 ∨ k.toNat ^ n.toNat ≤ 1000000000000000000 then 0 else 3
theorem ringF_low {n k : Int} (h : n < 1 ∨ k < 1) : ringF n k = 1 := if_pos h
theorem ringF_one {n : Nat} (h : 1 ≤ n) : ringF n 1 = 0 := by unfold ringF; rw [if_neg (by omega), if_pos (Or.inl rfl)]
theorem ringF_ok {n k : Nat} (h : 1 ≤ n) (hk : 1 ≤ k) (hp : k ^ n ≤ 1000000000000000000) : ringF n k = 0 := by
  unfold ringF; rw [if_neg (by omega), if_pos (Or.inr (by simpa using hp))]
theorem ringF_full {n k : Nat} (h : 1 ≤ n) (hk : 2 ≤ k) (hp : 1000000000000000000 < k ^ n) : ringF n k = 3 := by
  unfold ringF
  rw [if_neg (by omega), if_neg]
  rintro (h1 | h1)
  · omega
  · simp only [Int.toNat_natCast] at h1; omega
theorem ringF_cases (n k : Int) : (ringF n k = 1 ∧ (n < 1 ∨ k < 1)) ∨ (∃ N : Nat, n = N ∧ 1 ≤ N ∧ k = 1 ∧ ringF n k = 0) ∨ (∃ N K : Nat, n = N ∧ k = K ∧ 1 ≤ N ∧ 2 ≤ K ∧ ((K ^ N ≤ 1000000000000000000 ∧ ringF n k = 0) ∨ (1000000000000000000 < K ^ N ∧ ringF n k = 3))) := by
  by_cases h : n < 1 ∨ k < 1
  · exact .inl ⟨ringF_low h, h⟩
  · obtain ⟨N, rfl⟩ := Int.eq_ofNat_of_zero_le (show 0 ≤ n by omega)
    obtain ⟨K, rfl⟩ := Int.eq_ofNat_of_zero_le (show 0 ≤ k by omega)
    by_cases h1 : K = 1
    · subst h1; exact .inr (.inl ⟨N, rfl, by omega, rfl, ringF_one (by omega)⟩)
    · refine .inr (.inr ⟨N, K, rfl, rfl, by omega, by omega, ?_⟩)
      by_cases hp : K ^ N ≤ 1000000000000000000
      · exact .inl ⟨hp, ringF_ok (by omega) (by omega) hp⟩
      · exact .inr ⟨by omega, ringF_full (by omega) (by omega) (by omega)⟩

theorem grow_step {a k c : Nat} (h : a ≤ 1000000000000000000 / k) (hc : a * k = c) : c ≤ 1000000000000000000 := by
  rw [← hc]
  exact Nat.le_trans (Nat.mul_le_mul_right k h) (Nat.div_mul_le_self _ _)
theorem grow_over {a k : Nat} (hk : 0 < k) (h : 1000000000000000000 / k < a) : 1000000000000000000 < a * k := (Nat.div_lt_iff_lt_mul hk).1 h

set_option maxHeartbeats 400000 in
theorem tooMany_any (n k : Nat) (w : World) (hn : n < 9223372036854775808) (hk : 1 ≤ k) (hkk : k < 9223372036854775808) :
    Calls Try.prog 54 #[.int .i64 (n : Int), .int .i64 (k : Int)] w fun e w' => e = .returned (.bool (decide (1000000000000000000 < k ^ n))) ∧ w' = w := by
  by_cases h1 : k = 1
  · subst h1
    have hd : decide (1000000000000000000 < 1 ^ n) = false := by rw [Nat.one_pow]; rfl
    rw [hd]
    go_enter Try.func54, Try.ntmps54
    go_wp2
    go_ret
    exact ⟨rfl, rfl⟩
  · obtain ⟨z, Hz⟩ : ∃ z, Hid (decide (1000000000000000000 < k ^ n) = z) := ⟨_, rfl⟩
    rw [Hz.out]
    have hk1 : ((k : Int) == 1) = false := by simp; omega
    have hkn : (k : Int) ≠ 0 := by omega
    go_enter Try.func54, Try.ntmps54
    go_wp2
    go_loop [5, 9] (fun x i => ∃ a j : Nat, x = .int .i64 (a : Int) ∧ i = .int .i64 (j : Int) ∧ j ≤ n ∧ Hid (k ^ j = a) ∧ a ≤ 1000000000000000000) (fun _ i => (n - intOf i).toNat)
    case atStart => exact ⟨1, 0, rfl, rfl, by omega, (Nat.pow_zero k : k ^ 0 = 1), by omega⟩
    case round =>
      obtain ⟨a, j, rfl, rfl, hj, HA, ha⟩ := hrel
      have hdi : (1000000000000000000 : Int) / (k : Int) = ((1000000000000000000 / k : Nat) : Int) := by simp
      by_cases hlt : j < n
      · have hji : (j : Int) < n := by omega
        have hdec : decide ((j : Int) < n) = true := by simp; omega
        obtain ⟨q, Hq⟩ : ∃ q, Hid (1000000000000000000 / k = q) := ⟨_, rfl⟩
        have hql : q ≤ 1000000000000000000 := by rw [← Hq.out]; exact Nat.div_le_self _ _
        rw [Hq.out] at hdi
        by_cases hov : q < a
        · have hoi : (q : Int) < a := by omega
          have : z = true := by
            rw [← Hz.out, decide_eq_true_iff]
            have h2 := grow_over (k := k) (a := a) (by omega) (by rw [Hq.out]; exact hov)
            rw [← HA.out, ← Nat.pow_succ] at h2
            exact Nat.lt_of_lt_of_le h2 (pow_up (by omega) (by omega))
          subst this
          go_wp2
          go_ret
          exact ⟨rfl, rfl⟩
        · have hoi : ¬ (q : Int) < a := by omega
          obtain ⟨c, Hc⟩ : ∃ c, Hid (k ^ (j + 1) = c) := ⟨_, rfl⟩
          have hm0 : a * k = c := by rw [← Hc.out, Nat.pow_succ, HA.out]
          have hcl : c ≤ 1000000000000000000 := grow_step (by rw [Hq.out]; omega) hm0
          have hm : (a : Int) * (k : Int) = (c : Int) := by rw [← hm0]; simp
          go_wp2
          go_round
          case rel => exact ⟨c, j + 1, rfl, by go_num, by omega, Hc, hcl⟩
          case measure => simp [intOf]; omega
      · have hdec : decide ((j : Int) < n) = false := by simp; omega
        have : z = false := by
          rw [← Hz.out, decide_eq_false_iff_not, show n = j by omega, HA.out]; omega
        subst this
        go_wp2
        go_ret
        exact ⟨rfl, rfl⟩

set_option maxHeartbeats 400000 in
theorem checkRing_any (n k : Int) (w : World) (hn : n < 9223372036854775808) (hk : k < 9223372036854775808) :
    Calls Try.prog 27 #[.int .i64 n, .int .i64 k] w fun e w' => e = .returned (.int .i64 (ringF n k)) ∧ w' = w := by
  by_cases hn1 : n < 1
  · rw [ringF_low (.inl hn1)]
    go_enter Try.func27, Try.ntmps27
    go_wp2
    go_ret
    exact ⟨rfl, rfl⟩
  · have hnd : decide (n < 1) = false := by simpa using hn1
    by_cases hk1 : k < 1
    · rw [ringF_low (.inr hk1)]
      go_enter Try.func27, Try.ntmps27
      go_wp2
      go_ret
      exact ⟨rfl, rfl⟩
    · have hkd : decide (k < 1) = false := by simpa using hk1
      obtain ⟨N, rfl⟩ := Int.eq_ofNat_of_zero_le (show 0 ≤ n by omega)
      obtain ⟨K, rfl⟩ := Int.eq_ofNat_of_zero_le (show 0 ≤ k by omega)
      obtain ⟨z, Hz⟩ : ∃ z, Hid (ringF N K = z) := ⟨_, rfl⟩
      rw [Hz.out]
      have hT := tooMany_any N K
      obtain ⟨b, Hb⟩ : ∃ b, Hid (decide (1000000000000000000 < K ^ N) = b) := ⟨_, rfl⟩
      rw [Hb.out] at hT
      have hz : z = if b then 3 else 0 := by
        rw [← Hz.out]
        cases b with
        | true =>
          have h := of_decide_eq_true Hb.out
          have hK2 : 2 ≤ K := by
            rcases (show K = 1 ∨ 2 ≤ K by omega) with rfl | h2
            · rw [Nat.one_pow] at h; omega
            · exact h2
          rw [ringF_full (by omega) hK2 h]; rfl
        | false =>
          have h := of_decide_eq_false Hb.out
          rw [ringF_ok (by omega) (by omega) (by omega)]; rfl
      cases b with
      | true =>
        simp only [if_true] at hz
        subst hz
        go_enter Try.func27, Try.ntmps27
        go_wp2_with (go_at_call 54; refine (hT _ (by omega) (by omega) (by omega)).mono ?_; rintro e w' ⟨rfl, rfl⟩)
        go_ret
        exact ⟨rfl, rfl⟩
      | false =>
        simp only [Bool.false_eq_true, if_false] at hz
        subst hz
        go_enter Try.func27, Try.ntmps27
        go_wp2_with (go_at_call 54; refine (hT _ (by omega) (by omega) (by omega)).mono ?_; rintro e w' ⟨rfl, rfl⟩)
        go_ret
        exact ⟨rfl, rfl⟩

set_option maxHeartbeats 400000 in
theorem RingFault_any (n k : Int) (w : World) (hn : n < 9223372036854775808) (hk : k < 9223372036854775808) :
    Calls Try.prog 9 #[.int .i64 n, .int .i64 k] w fun e w' => e = .returned (.int .i64 (ringF n k)) ∧ w' = w := by
  by_cases hn1 : n < 1
  · rw [ringF_low (.inl hn1)]
    go_enter Try.func9, Try.ntmps9
    go_wp2
    go_ret
    exact ⟨rfl, rfl⟩
  · have hnd : decide (n < 1) = false := by simpa using hn1
    by_cases hk1 : k < 1
    · rw [ringF_low (.inr hk1)]
      go_enter Try.func9, Try.ntmps9
      go_wp2
      go_ret
      exact ⟨rfl, rfl⟩
    · have hkd : decide (k < 1) = false := by simpa using hk1
      obtain ⟨N, rfl⟩ := Int.eq_ofNat_of_zero_le (show 0 ≤ n by omega)
      obtain ⟨K, rfl⟩ := Int.eq_ofNat_of_zero_le (show 0 ≤ k by omega)
      by_cases h1 : K = 1
      · subst h1
        obtain ⟨z, Hz⟩ : ∃ z, Hid (ringF N (1 : Nat) = z) := ⟨_, rfl⟩
        rw [Hz.out]
        have hz : z = 0 := by rw [← Hz.out]; exact ringF_one (by omega)
        subst hz
        have hN0 : (0 : Int) < N := by omega
        go_enter Try.func9, Try.ntmps9
        go_wp2
        go_loop [5, 6] (fun x i => x = .int .i64 1 ∧ i = .int .i64 0) (fun _ _ => 0)
        case atStart => exact ⟨rfl, rfl⟩
        case round =>
          obtain ⟨rfl, rfl⟩ := hrel
          clear Hz hkd hk1 hnd hn1 hn hk
          go_wp2
          go_ret
          exact ⟨rfl, rfl⟩
      · obtain ⟨z, Hz⟩ : ∃ z, Hid (ringF N K = z) := ⟨_, rfl⟩
        rw [Hz.out]
        have hk1' : (1 : Int) < K := by omega
        have hk1d : decide ((1 : Int) < K) = true := by simp; omega
        have hkn : (K : Int) ≠ 0 := by omega
        go_enter Try.func9, Try.ntmps9
        go_wp2
        go_loop [5, 6] (fun x i => ∃ a j : Nat, x = .int .i64 (a : Int) ∧ i = .int .i64 (j : Int) ∧ j ≤ N ∧ Hid (K ^ j = a) ∧ a ≤ 1000000000000000000) (fun _ i => (N - intOf i).toNat)
        case atStart => exact ⟨1, 0, rfl, rfl, by omega, (Nat.pow_zero K : K ^ 0 = 1), by omega⟩
        case round =>
          obtain ⟨a, j, rfl, rfl, hj, HA, ha⟩ := hrel
          have hdi : (1000000000000000000 : Int) / (K : Int) = ((1000000000000000000 / K : Nat) : Int) := by simp
          by_cases hlt : j < N
          · have hji : (j : Int) < N := by omega
            have hdec : decide ((j : Int) < N) = true := by simp; omega
            obtain ⟨q, Hq⟩ : ∃ q, Hid (1000000000000000000 / K = q) := ⟨_, rfl⟩
            have hql : q ≤ 1000000000000000000 := by rw [← Hq.out]; exact Nat.div_le_self _ _
            rw [Hq.out] at hdi
            by_cases hov : q < a
            · have hoi : (q : Int) < a := by omega
              have : z = 3 := by
                have h2 := grow_over (k := K) (a := a) (by omega) (by rw [Hq.out]; exact hov)
                rw [← HA.out, ← Nat.pow_succ] at h2
                rw [← Hz.out]
                exact ringF_full (by omega) (by omega) (Nat.lt_of_lt_of_le h2 (pow_up (by omega) (by omega)))
              subst this
              go_wp2
              go_ret
              exact ⟨rfl, rfl⟩
            · have hoi : ¬ (q : Int) < a := by omega
              obtain ⟨c, Hc⟩ : ∃ c, Hid (K ^ (j + 1) = c) := ⟨_, rfl⟩
              have hm0 : a * K = c := by rw [← Hc.out, Nat.pow_succ, HA.out]
              have hcl : c ≤ 1000000000000000000 := grow_step (by rw [Hq.out]; omega) hm0
              have hm : (a : Int) * (K : Int) = (c : Int) := by rw [← hm0]; simp
              go_wp2
              go_round
              case rel => exact ⟨c, j + 1, rfl, by go_num, by omega, Hc, hcl⟩
              case measure => simp [intOf]; omega
          · have hdec : decide ((j : Int) < N) = false := by simp; omega
            have : z = 0 := by
              rw [← Hz.out]
              exact ringF_ok (by omega) (by omega) (by rw [show N = j by omega, HA.out]; exact ha)
            subst this
            go_wp2
            go_ret
            exact ⟨rfl, rfl⟩

/-- No number from 2 on below it divides it. -/
def PrimeN (p : Nat) : Prop := 1 < p ∧ ∀ d, 1 < d → d < p → p % d ≠ 0
theorem prime_of_sq {p d : Nat} (hp : 1 < p) (hd : p < d * d) (h : ∀ e, 1 < e → e < d → p % e ≠ 0) : PrimeN p := by
  refine ⟨hp, fun e h1 h2 h3 => ?_⟩
  by_cases he : e < d
  · exact h e h1 he h3
  · -- the other divisor is less than d
    obtain ⟨q, hq⟩ := Nat.dvd_of_mod_eq_zero h3
    have hq1 : 1 < q := by
      rcases q with _ | _ | q
      · omega
      · omega
      · omega
    have hqd : q < d := by
      by_cases hqd : q < d
      · exact hqd
      · have := Nat.mul_le_mul (show d ≤ e by omega) (show d ≤ q by omega)
        omega
    exact h q hq1 hqd (by rw [hq]; exact Nat.mul_mod_left e q)

/-- What IsPrime answers. -/
def PrimeAns (n : Int) (e : Ending) : Prop := ∃ b : Bool, e = .returned (.bool b) ∧ (b = true → ∃ p : Nat, n = p ∧ PrimeN p)
set_option maxHeartbeats 400000 in
theorem IsPrime_any (n : Int) (w : World) :
    Calls Try.prog 25 #[.int .i64 n] w fun e w' => PrimeAns n e ∧ w' = w := by
  by_cases h2 : n < 2
  · go_enter Try.func25, Try.ntmps25
    go_wp2
    go_ret
    exact ⟨⟨false, rfl, by simp⟩, rfl⟩
  · have hd2 : decide (n < 2) = false := by simpa using h2
    by_cases h9 : 100000 < n
    · have hd1 : decide (100000 < n) = true := by simpa using h9
      go_enter Try.func25, Try.ntmps25
      go_wp2
      go_ret
      exact ⟨⟨false, rfl, by simp⟩, rfl⟩
    · have hd1 : decide (100000 < n) = false := by simpa using h9
      obtain ⟨m, rfl⟩ := Int.eq_ofNat_of_zero_le (show 0 ≤ n by omega)
      go_enter Try.func25, Try.ntmps25
      go_wp2
      go_loop [3] (fun i => ∃ d : Nat, 2 ≤ d ∧ d ≤ 1000 ∧ i = .int .i64 d ∧ Hid (∀ e, 1 < e → e < d → m % e ≠ 0)) (fun i => (1000 - intOf i).toNat)
      case atStart => exact ⟨2, by omega, by omega, rfl, (fun e h1 h2 => by omega : ∀ e, 1 < e → e < 2 → m % e ≠ 0)⟩
      case round =>
        obtain ⟨d, hd2', hd9, rfl, HN⟩ := hrel
        have hmm : d * d ≤ 1000000 := Nat.mul_le_mul hd9 hd9
        have hmi : ((d * d : Nat) : Int) = (d : Int) * d := by simp
        have hz : (0 : Int) ≤ (d : Int) * d := by omega
        have hz2 : (d : Int) * d ≤ 1000000 := by omega
        by_cases hle : d * d ≤ m
        · have hle' : (d : Int) * d ≤ m := by omega
          have hd8 : d < 1000 := by
            apply Classical.byContradiction; intro h
            have : 1000 * 1000 ≤ d * d := Nat.mul_le_mul (by omega) (by omega)
            omega
          clear hmi
          by_cases hr : m % d = 0
          · have hb : ((m : Int) % (d : Int) == 0) = true := by simp; omega
            clear hr
            go_wp2
            go_ret
            exact ⟨⟨false, rfl, by simp⟩, rfl⟩
          · have hb : ((m : Int) % (d : Int) == 0) = false := by simp; omega
            have HN' : Hid (∀ e, 1 < e → e < d + 1 → m % e ≠ 0) := by
              intro e h1 h2
              by_cases he : e = d
              · rw [he]; exact hr
              · exact HN.out e h1 (by omega)
            clear hr
            go_wp2
            go_round
            case rel => exact ⟨d + 1, by omega, by omega, by go_num, HN'⟩
            case measure => simp [intOf]; omega
        · have hle' : ¬ (d : Int) * d ≤ m := by omega
          have HO : Hid (PrimeN m) := prime_of_sq (by omega) (by omega) HN.out
          clear hmi
          go_wp2
          go_ret
          exact ⟨⟨true, rfl, fun _ => ⟨m, rfl, HO.out⟩⟩, rfl⟩

end Go.Proofs.Ytmaplmgecohjbaa
