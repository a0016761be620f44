/- The walks of turns, turnsOver. -/
import Derived.Test.YtmaplmgecohjbaaC1
import Derived.Maps.RangeWalk
import Derived.Maps.OwnSet
/- The walks of tooMany, checkRing, RingFault, IsPrime. -/
namespace Go.Proofs.Ytmaplmgecohjbaa
open Go.RowKit

/-- What is wrong with so many beads of so many colours. -/
def ringF (n k : Int) : Int := if n < 1 ∨ k < 1 then 1 else if k = 1 ∨ k.toNat ^ n.toNat ≤ 1000000000000000000 then 0 else 3
theorem ringF_low {n k : Int} (h : n < 1 ∨ k < 1) : ringF n k = 1 := if_pos h
theorem ringF_one {n : Nat} (h : 1 ≤ n) : ringF n 1 = 0 := by unfold ringF; rw [if_neg (by omega), if_pos (Or.inl rfl)]
theorem ringF_ok {n k : Nat} (h : 1 ≤ n) (hk : 1 ≤ k) (hp : k ^ n ≤ 1000000000000000000) : ringF n k = 0 := by
  unfold ringF; rw [if_neg (by omega), if_pos (Or.inr (by simpa using hp))]
theorem ringF_full {n k : Nat} (h : 1 ≤ n) (hk : 2 ≤ k) (hp : 1000000000000000000 < k ^ n) : ringF n k = 3 := by
  unfold ringF
  rw [if_neg (by omega), if_neg]
  rintro (h1 | h1)
  · omega
  · simp only [Int.toNat_natCast] at h1; omega
theorem ringF_cases (n k : Int) : (ringF n k = 1 ∧ (n < 1 ∨ k < 1)) ∨ (∃ N : Nat, n = N ∧ 1 ≤ N ∧ k = 1 ∧ ringF n k = 0) ∨ (∃ N K : Nat, n = N ∧ k = K ∧ 1 ≤ N ∧ 2 ≤ K ∧ ((K ^ N ≤ 1000000000000000000 ∧ ringF n k = 0) ∨ (1000000000000000000 < K ^ N ∧ ringF n k = 3))) := by
  by_cases h : n < 1 ∨ k < 1
  · exact .inl ⟨ringF_low h, h⟩
  · obtain ⟨N, rfl⟩ := Int.eq_ofNat_of_zero_le (show 0 ≤ n by omega)
    obtain ⟨K, rfl⟩ := Int.eq_ofNat_of_zero_le (show 0 ≤ k by omega)
    by_cases h1 : K = 1
    · subst h1; exact .inr (.inl ⟨N, rfl, by omega, rfl, ringF_one (by omega)⟩)
    · refine .inr (.inr ⟨N, K, rfl, rfl, by omega, by omega, ?_⟩)
      by_cases hp : K ^ N ≤ 1000000000000000000
      · exact .inl ⟨hp, ringF_ok (by omega) (by omega) hp⟩
      · exact .inr ⟨by omega, ringF_full (by omega) (by omega) (by omega)⟩

theorem grow_step {a k c : Nat} (h : a ≤ 1000000000000000000 / k) (hc : a * k = c) : c ≤ 1000000000000000000 := by
  rw [← hc]
  exact Nat.le_trans (Nat.mul_le_mul_right k h) (Nat.div_mul_le_self _ _)
theorem grow_over {a k : Nat} (hk : 0 < k) (h : 1000000000000000000 / k < a) : 1000000000000000000 < a * k := (Nat.div_lt_iff_lt_mul hk).1 h

set_option maxHeartbeats 400000 in
theorem tooMany_any (n k : Nat) (w : World) (hn : n < 9223372036854775808) (hk : 1 ≤ k) (hkk : k < 9223372036854775808) :
    Calls Try.prog 54 #[.int .i64 (n : Int), .int .i64 (k : Int)] w fun e w' => e = .returned (.bool (decide (1000000000000000000 < k ^ n))) ∧ w' = w := by
  by_cases h1 : k = 1
  · subst h1
    have hd : decide (1000000000000000000 < 1 ^ n) = false := by rw [Nat.one_pow]; rfl
    rw [hd]
    go_enter Try.func54, Try.ntmps54
    go_wp2
    go_ret
    exact ⟨rfl, rfl⟩
  · obtain ⟨z, Hz⟩ : ∃ z, Hid (decide (1000000000000000000 < k ^ n) = z) := ⟨_, rfl⟩
    rw [Hz.out]
    have hk1 : ((k : Int) == 1) = false := by simp; omega
    have hkn : (k : Int) ≠ 0 := by omega
    go_enter Try.func54, Try.ntmps54
    go_wp2
    go_loop [5, 9] (fun x i => ∃ a j : Nat, x = .int .i64 (a : Int) ∧ i = .int .i64 (j : Int) ∧ j ≤ n ∧ Hid (k ^ j = a) ∧ a ≤ 1000000000000000000) (fun _ i => (n - intOf i).toNat)
    case atStart => exact ⟨1, 0, rfl, rfl, by omega, (Nat.pow_zero k : k ^ 0 = 1), by omega⟩
    case round =>
      obtain ⟨a, j, rfl, rfl, hj, HA, ha⟩ := hrel
      have hdi : (1000000000000000000 : Int) / (k : Int) = ((1000000000000000000 / k : Nat) : Int) := by simp
      by_cases hlt : j < n
      · have hji : (j : Int) < n := by omega
        have hdec : decide ((j : Int) < n) = true := by simp; omega
        obtain ⟨q, Hq⟩ : ∃ q, Hid (1000000000000000000 / k = q) := ⟨_, rfl⟩
        have hql : q ≤ 1000000000000000000 := by rw [← Hq.out]; exact Nat.div_le_self _ _
        rw [Hq.out] at hdi
        by_cases hov : q < a
        · have hoi : (q : Int) < a := by omega
          have : z = true := by
            rw [← Hz.out, decide_eq_true_iff]
            have h2 := grow_over (k := k) (a := a) (by omega) (by rw [Hq.out]; exact hov)
            rw [← HA.out, ← Nat.pow_succ] at h2
            exact Nat.lt_of_lt_of_le h2 (pow_up (by omega) (by omega))
          subst this
          go_wp2
          go_ret
          exact ⟨rfl, rfl⟩
        · have hoi : ¬ (q : Int) < a := by omega
          obtain ⟨c, Hc⟩ : ∃ c, Hid (k ^ (j + 1) = c) := ⟨_, rfl⟩
          have hm0 : a * k = c := by rw [← Hc.out, Nat.pow_succ, HA.out]
          have hcl : c ≤ 1000000000000000000 := grow_step (by rw [Hq.out]; omega) hm0
          have hm : (a : Int) * (k : Int) = (c : Int) := by rw [← hm0]; simp
          go_wp2
          go_round
          case rel => exact ⟨c, j + 1, rfl, by go_num, by omega, Hc, hcl⟩
          case measure => simp [intOf]; omega
      · have hdec : decide ((j : Int) < n) = false := by simp; omega
        have : z = false := by
          rw [← Hz.out, decide_eq_false_iff_not, show n = j by omega, HA.out]; omega
        subst this
        go_wp2
        go_ret
        exact ⟨rfl, rfl⟩

set_option maxHeartbeats 400000 in
theorem checkRing_any (n k : Int) (w : World) (hn : n < 9223372036854775808) (hk : k < 9223372036854775808) :
    Calls Try.prog 27 #[.int .i64 n, .int .i64 k] w fun e w' => e = .returned (.int .i64 (ringF n k)) ∧ w' = w := by
  by_cases hn1 : n < 1
  · rw [ringF_low (.inl hn1)]
    go_enter Try.func27, Try.ntmps27
    go_wp2
    go_ret
    exact ⟨rfl, rfl⟩
  · have hnd : decide (n < 1) = false := by simpa using hn1
    by_cases hk1 : k < 1
    · rw [ringF_low (.inr hk1)]
      go_enter Try.func27, Try.ntmps27
      go_wp2
      go_ret
      exact ⟨rfl, rfl⟩
    · have hkd : decide (k < 1) = false := by simpa using hk1
      obtain ⟨N, rfl⟩ := Int.eq_ofNat_of_zero_le (show 0 ≤ n by omega)
      obtain ⟨K, rfl⟩ := Int.eq_ofNat_of_zero_le (show 0 ≤ k by omega)
      obtain ⟨z, Hz⟩ : ∃ z, Hid (ringF N K = z) := ⟨_, rfl⟩
      rw [Hz.out]
      have hT := tooMany_any N K
      obtain ⟨b, Hb⟩ : ∃ b, Hid (decide (1000000000000000000 < K ^ N) = b) := ⟨_, rfl⟩
      rw [Hb.out] at hT
      have hz : z = if b then 3 else 0 := by
        rw [← Hz.out]
        cases b with
        | true =>
          have h := of_decide_eq_true Hb.out
          have hK2 : 2 ≤ K := by
            rcases (show K = 1 ∨ 2 ≤ K by omega) with rfl | h2
            · rw [Nat.one_pow] at h; omega
            · exact h2
          rw [ringF_full (by omega) hK2 h]; rfl
        | false =>
          have h := of_decide_eq_false Hb.out
          rw [ringF_ok (by omega) (by omega) (by omega)]; rfl
      cases b with
      | true =>
        simp only [if_true] at hz
        subst hz
        go_enter Try.func27, Try.ntmps27
        go_wp2_with (go_at_call 54; refine (hT _ (by omega) (by omega) (by omega)).mono ?_; rintro e w' ⟨rfl, rfl⟩)
        go_ret
        exact ⟨rfl, rfl⟩
      | false =>
        simp only [Bool.false_eq_true, if_false] at hz
        subst hz
        go_enter Try.func27, Try.ntmps27
        go_wp2_with (go_at_call 54; refine (hT _ (by omega) (by omega) (by omega)).mono ?_; rintro e w' ⟨rfl, rfl⟩)
        go_ret
        exact ⟨rfl, rfl⟩

set_option maxHeartbeats 400000 in
theorem RingFault_any (n k : Int) (w : World) (hn : n < 9223372036854775808) (hk : k < 9223372036854775808) :
    Calls Try.prog 9 #[.int .i64 n, .int .i64 k] w fun e w' => e = .returned (.int .i64 (ringF n k)) ∧ w' = w := by
  by_cases hn1 : n < 1
  · rw [ringF_low (.inl hn1)]
    go_enter Try.func9, Try.ntmps9
    go_wp2
    go_ret
    exact ⟨rfl, rfl⟩
  · have hnd : decide (n < 1) = false := by simpa using hn1
    by_cases hk1 : k < 1
    · rw [ringF_low (.inr hk1)]
      go_enter Try.func9, Try.ntmps9
      go_wp2
      go_ret
      exact ⟨rfl, rfl⟩
    · have hkd : decide (k < 1) = false := by simpa using hk1
      obtain ⟨N, rfl⟩ := Int.eq_ofNat_of_zero_le (show 0 ≤ n by omega)
      obtain ⟨K, rfl⟩ := Int.eq_ofNat_of_zero_le (show 0 ≤ k by omega)
      by_cases h1 : K = 1
      · subst h1
        obtain ⟨z, Hz⟩ : ∃ z, Hid (ringF N (1 : Nat) = z) := ⟨_, rfl⟩
        rw [Hz.out]
        have hz : z = 0 := by rw [← Hz.out]; exact ringF_one (by omega)
        subst hz
        have hN0 : (0 : Int) < N := by omega
        go_enter Try.func9, Try.ntmps9
        go_wp2
        go_loop [5, 6] (fun x i => x = .int .i64 1 ∧ i = .int .i64 0) (fun _ _ => 0)
        case atStart => exact ⟨rfl, rfl⟩
        case round =>
          obtain ⟨rfl, rfl⟩ := hrel
          clear Hz hkd hk1 hnd hn1 hn hk
          go_wp2
          go_ret
          exact ⟨rfl, rfl⟩
      · obtain ⟨z, Hz⟩ : ∃ z, Hid (ringF N K = z) := ⟨_, rfl⟩
        rw [Hz.out]
        have hk1' : (1 : Int) < K := by omega
        have hk1d : decide ((1 : Int) < K) = true := by simp; omega
        have hkn : (K : Int) ≠ 0 := by omega
        go_enter Try.func9, Try.ntmps9
        go_wp2
        go_loop [5, 6] (fun x i => ∃ a j : Nat, x = .int .i64 (a : Int) ∧ i = .int .i64 (j : Int) ∧ j ≤ N ∧ Hid (K ^ j = a) ∧ a ≤ 1000000000000000000) (fun _ i => (N - intOf i).toNat)
        case atStart => exact ⟨1, 0, rfl, rfl, by omega, (Nat.pow_zero K : K ^ 0 = 1), by omega⟩
        case round =>
          obtain ⟨a, j, rfl, rfl, hj, HA, ha⟩ := hrel
          have hdi : (1000000000000000000 : Int) / (K : Int) = ((1000000000000000000 / K : Nat) : Int) := by simp
          by_cases hlt : j < N
          · have hji : (j : Int) < N := by omega
            have hdec : decide ((j : Int) < N) = true := by simp; omega
            obtain ⟨q, Hq⟩ : ∃ q, Hid (1000000000000000000 / K = q) := ⟨_, rfl⟩
            have hql : q ≤ 1000000000000000000 := by rw [← Hq.out]; exact Nat.div_le_self _ _
            rw [Hq.out] at hdi
            by_cases hov : q < a
            · have hoi : (q : Int) < a := by omega
              have : z = 3 := by
                have h2 := grow_over (k := K) (a := a) (by omega) (by rw [Hq.out]; exact hov)
                rw [← HA.out, ← Nat.pow_succ] at h2
                rw [← Hz.out]
                exact ringF_full (by omega) (by omega) (Nat.lt_of_lt_of_le h2 (pow_up (by omega) (by omega)))
              subst this
              go_wp2
              go_ret
              exact ⟨rfl, rfl⟩
            · have hoi : ¬ (q : Int) < a := by omega
              obtain ⟨c, Hc⟩ : ∃ c, Hid (K ^ (j + 1) = c) := ⟨_, rfl⟩
              have hm0 : a * K = c := by rw [← Hc.out, Nat.pow_succ, HA.out]
              have hcl : c ≤ 1000000000000000000 := grow_step (by rw [Hq.out]; omega) hm0
              have hm : (a : Int) * (K : Int) = (c : Int) := by rw [← hm0]; simp
              go_wp2
              go_round
              case rel => exact ⟨c, j + 1, rfl, by go_num, by omega, Hc, hcl⟩
              case measure => simp [intOf]; omega
          · have hdec : decide ((j : Int) < N) = false := by simp; omega
            have : z = 0 := by
              rw [← Hz.out]
              exact ringF_ok (by omega) (by omega) (by rw [show N = j by omega, HA.out]; exact ha)
            subst this
            go_wp2
            go_ret
            exact ⟨rfl, rfl⟩

/-- No number from 2 on below it divides it. -/
def PrimeN (p : Nat) : Prop := 1 < p ∧ ∀ d, 1 < d → d < p → p % d ≠ 0
theorem prime_of_sq {p d : Nat} (hp : 1 < p) (hd : p < d * d) (h : ∀ e, 1 < e → e < d → p % e ≠ 0) : PrimeN p := by
  refine ⟨hp, fun e h1 h2 h3 => ?_⟩
  by_cases he : e < d
  · exact h e h1 he h3
  · -- the other divisor is less than d
    obtain ⟨q, hq⟩ := Nat.dvd_of_mod_eq_zero h3
    have hq1 : 1 < q := by
      rcases q with _ | _ | q
      · omega
      · omega
      · omega
    have hqd : q < d := by
      by_cases hqd : q < d
      · exact hqd
      · have := Nat.mul_le_mul (show d ≤ e by omega) (show d ≤ q by omega)
        omega
    exact h q hq1 hqd (by rw [hq]; exact Nat.mul_mod_left e q)

/-- What IsPrime answers. -/
def PrimeAns (n : Int) (e : Ending) : Prop := ∃ b : Bool, e = .returned (.bool b) ∧ (b = true → ∃ p : Nat, n = p ∧ PrimeN p)
set_option maxHeartbeats 400000 in
theorem IsPrime_any (n : Int) (w : World) :
    Calls Try.prog 25 #[.int .i64 n] w fun e w' => PrimeAns n e ∧ w' = w := by
  by_cases h2 : n < 2
  · go_enter Try.func25, Try.ntmps25
    go_wp2
    go_ret
    exact ⟨⟨false, rfl, by simp⟩, rfl⟩
  · have hd2 : decide (n < 2) = false := by simpa using h2
    by_cases h9 : 100000 < n
    · have hd1 : decide (100000 < n) = true := by simpa using h9
      go_enter Try.func25, Try.ntmps25
      go_wp2
      go_ret
      exact ⟨⟨false, rfl, by simp⟩, rfl⟩
    · have hd1 : decide (100000 < n) = false := by simpa using h9
      obtain ⟨m, rfl⟩ := Int.eq_ofNat_of_zero_le (show 0 ≤ n by omega)
      go_enter Try.func25, Try.ntmps25
      go_wp2
      go_loop [3] (fun i => ∃ d : Nat, 2 ≤ d ∧ d ≤ 1000 ∧ i = .int .i64 d ∧ Hid (∀ e, 1 < e → e < d → m % e ≠ 0)) (fun i => (1000 - intOf i).toNat)
      case atStart => exact ⟨2, by omega, by omega, rfl, (fun e h1 h2 => by omega : ∀ e, 1 < e → e < 2 → m % e ≠ 0)⟩
      case round =>
        obtain ⟨d, hd2', hd9, rfl, HN⟩ := hrel
        have hmm : d * d ≤ 1000000 := Nat.mul_le_mul hd9 hd9
        have hmi : ((d * d : Nat) : Int) = (d : Int) * d := by simp
        have hz : (0 : Int) ≤ (d : Int) * d := by omega
        have hz2 : (d : Int) * d ≤ 1000000 := by omega
        by_cases hle : d * d ≤ m
        · have hle' : (d : Int) * d ≤ m := by omega
          have hd8 : d < 1000 := by
            apply Classical.byContradiction; intro h
            have : 1000 * 1000 ≤ d * d := Nat.mul_le_mul (by omega) (by omega)
            omega
          clear hmi
          by_cases hr : m % d = 0
          · have hb : ((m : Int) % (d : Int) == 0) = true := by simp; omega
            clear hr
            go_wp2
            go_ret
            exact ⟨⟨false, rfl, by simp⟩, rfl⟩
          · have hb : ((m : Int) % (d : Int) == 0) = false := by simp; omega
            have HN' : Hid (∀ e, 1 < e → e < d + 1 → m % e ≠ 0) := by
              intro e h1 h2
              by_cases he : e = d
              · rw [he]; exact hr
              · exact HN.out e h1 (by omega)
            clear hr
            go_wp2
            go_round
            case rel => exact ⟨d + 1, by omega, by omega, by go_num, HN'⟩
            case measure => simp [intOf]; omega
        · have hle' : ¬ (d : Int) * d ≤ m := by omega
          have HO : Hid (PrimeN m) := prime_of_sq (by omega) (by omega) HN.out
          clear hmi
          go_wp2
          go_ret
          exact ⟨⟨true, rfl, fun _ => ⟨m, rfl, HO.out⟩⟩, rfl⟩

end Go.Proofs.Ytmaplmgecohjbaa

/- Tallies: maps of numbers; the walks of unlike, turns, turnsOver. -/
namespace Go.Proofs.Ytmaplmgecohjbaa
open Go.RowKit Go.Maps

theorem und63 : Try.prog.underlying 63 = some (.map 3 3) := by kernel_rfl
theorem law3 : Keyed Try.prog 3 := int_keyed und3
theorem zero3 (w : World) : (zeroValue 3).run Try.prog w = .ok (.int .i64 0) w := by kernel_rfl

/-- What a map of numbers reads as: at c below N the number T c, where that is not nought. -/
structure TallyIs (D : DataW Unit) (T : Nat → Int) (N : Nat) : Prop where
  has : ∀ x : Int, Maps.has D (.int .i64 x) = true ↔ ∃ c : Nat, c < N ∧ x = c ∧ T c ≠ 0
  at_ : ∀ c, c < N → T c ≠ 0 → ∀ z, D.atKey (.int .i64 (c : Int)) z = .lit (.int .i64 (T c))
theorem TallyIs.empty (N : Nat) : TallyIs (.map []) (fun _ => 0) N := ⟨fun x => ⟨fun h => by simp [Maps.has] at h, fun ⟨_, _, _, h⟩ => absurd rfl h⟩, fun _ _ h => absurd rfl h⟩
theorem TallyIs.congr {D : DataW Unit} {T T' : Nat → Int} {N : Nat} (h : TallyIs D T N) (e : ∀ c, T c = T' c) : TallyIs D T' N := by
  have : T = T' := funext e
  rw [← this]; exact h
theorem TallyIs.look {D : DataW Unit} {T : Nat → Int} {N c : Nat} (h : TallyIs D T N) (hc : c < N) {x : Int} (hat : D.atKey (.int .i64 (c : Int)) (.lit (.int .i64 0)) = .lit (.int .i64 x)) : x = T c := by
  by_cases e : T c = 0
  · have hn : Maps.has D (.int .i64 (c : Int)) = false := by
      cases hh : Maps.has D (.int .i64 (c : Int)) with
      | false => rfl
      | true =>
        obtain ⟨c', _, e1, e2⟩ := (h.has _).1 hh
        obtain rfl : c = c' := by omega
        exact absurd e e2
    rw [atKey_of_not_has hn] at hat
    simp only [DataW.lit.injEq, Lit.int.injEq, true_and] at hat
    omega
  · rw [h.at_ c hc e] at hat
    simp only [DataW.lit.injEq, Lit.int.injEq, true_and] at hat
    omega
theorem TallyIs.put {D : DataW Unit} {T : Nat → Int} {N c : Nat} (h : TallyIs D T N) (hD : IsMap D) (hc : c < N) {v : Int} (hv : v ≠ 0) : TallyIs (D.put (.int .i64 (c : Int)) (.lit (.int .i64 v))) (upd T c v) N := by
  have hk : WideAt.IsKeyLit (.int .i64 (c : Int)) := trivial
  refine ⟨fun x => ?_, fun c' hc' hne z => ?_⟩
  · by_cases e : x = c
    · subst e
      rw [has_put_same hD hk]
      exact ⟨fun _ => ⟨c, hc, rfl, by simpa [upd] using hv⟩, fun _ => rfl⟩
    · rw [has_put_other (by simpa using e), h.has]
      refine ⟨fun ⟨c', h1, h2, h3⟩ => ⟨c', h1, h2, ?_⟩, fun ⟨c', h1, h2, h3⟩ => ⟨c', h1, h2, ?_⟩⟩
      · unfold upd; rw [if_neg (by omega)]; exact h3
      · unfold upd at h3; rw [if_neg (by omega)] at h3; exact h3
  · by_cases e : c' = c
    · subst e
      rw [atKey_put_same hD hk]
      simp [upd]
    · rw [atKey_put_other (by simp; omega)]
      unfold upd at hne ⊢
      rw [if_neg e] at hne ⊢
      exact h.at_ c' hc' hne z

/-- The sum of what has come. -/
noncomputable def sumLeft (T : Nat → Int) (left : Lit → Bool) (N : Nat) : Int := sumN (fun c => if left (.int .i64 (c : Int)) then 0 else T c) N
theorem sumLeft_le {T : Nat → Int} {left : Lit → Bool} {N : Nat} (h : ∀ c, 0 ≤ T c) : sumLeft T left N ≤ sumN T N := sumN_le fun c _ => by
  have := h c
  split <;> omega
theorem sumLeft_nonneg {T : Nat → Int} {left : Lit → Bool} {N : Nat} (h : ∀ c, 0 ≤ T c) : 0 ≤ sumLeft T left N := sumN_nonneg fun c _ => by
  have := h c
  split <;> omega
theorem sumLeft_all {T : Nat → Int} {left : Lit → Bool} {N : Nat} (h : ∀ kl, left kl = false) : sumLeft T left N = sumN T N := sumN_congr fun c _ => by rw [if_neg (by simp [h])]
theorem sumLeft_strike {T : Nat → Int} {left : Lit → Bool} {N c : Nat} (hc : c < N) (h : left (.int .i64 (c : Int)) = true) : sumLeft T (fun z => left z && !z.sameKey (.int .i64 (c : Int))) N = sumLeft T left N + T c := by
  unfold sumLeft
  have hs : (Lit.int .i64 (c : Int)).sameKey (.int .i64 (c : Int)) = true := WideAt.sameKey_self trivial
  rw [sumN_turn (f := fun c => if left (.int .i64 (c : Int)) then 0 else T c) (q := c) hc fun i hi => by
    have : (Lit.int .i64 (i : Int)).sameKey (.int .i64 (c : Int)) = false := sameKey_ne (by simp; omega)
    simp [this]]
  simp [h, hs]
theorem sumLeft_start {D : DataW Unit} {T : Nat → Int} {N : Nat} (h : TallyIs D T N) (S : Nat → Int) (hS : ∀ c, T c = 0 → S c = 0) : sumLeft S (Maps.has D) N = 0 := by
  unfold sumLeft
  rw [sumN_congr (g := fun _ => 0) fun c hc => ?_, sumN_zero]
  by_cases e : T c = 0
  · simp [hS c e]
  · rw [if_pos ((h.has _).2 ⟨c, hc, rfl, e⟩)]
theorem term_le {f : Nat → Int} {q : Nat} : ∀ {n : Nat}, q < n → (∀ i, 0 ≤ f i) → f q ≤ sumN f n
  | 0, h, _ => by omega
  | n + 1, h, h0 => by
    rw [sumN]
    by_cases e : q = n
    · subst e; have := sumN_nonneg (f := f) (n := q) fun i _ => h0 i; omega
    · have := term_le (f := f) (q := q) (n := n) (by omega) h0; have := h0 n; omega

set_option maxRecDepth 100000 in
set_option maxHeartbeats 1000000 in
theorem unlike_any (B n k N : Nat) (D : DataW Unit) (T : Nat → Int) (w : World) (hown : w.ownsMap Try.prog 3 (plainElem Try.prog 3) B n D) (hT : TallyIs D T N) (hT0 : ∀ c, 0 ≤ T c) (hk : 1 ≤ k) (hkk : k < 9223372036854775808)
    (hN : N ≤ 1000) (hs : sumN (fun c => T c * ((k ^ c : Nat) : Int)) N < 9223372036854775808) (hm : 0 < sumN T N) :
    Calls Try.prog 46 #[.map (some B), .int .i64 (k : Int)] w fun e w' => e = .returned (.int .i64 ((sumN (fun c => T c * ((k ^ c : Nat) : Int)) N).tdiv (sumN T N))) ∧ Below w.heap.size w w' := by
  obtain ⟨S, HS⟩ : ∃ S : Nat → Int, Hid ((fun c => T c * ((k ^ c : Nat) : Int)) = S) := ⟨_, rfl⟩
  rw [HS.out] at hs ⊢
  have hSc : ∀ c, S c = T c * ((k ^ c : Nat) : Int) := fun c => by rw [← HS.out]
  have hS0 : ∀ c, 0 ≤ S c := fun c => by rw [hSc]; exact Int.mul_nonneg (hT0 c) (Int.natCast_nonneg _)
  have hTS : ∀ c, T c ≤ S c := fun c => by
    rw [hSc]
    have h1 : (1 : Int) ≤ ((k ^ c : Nat) : Int) := by have := Nat.pow_pos (n := c) (show 0 < k by omega); omega
    have := Int.mul_le_mul_of_nonneg_left h1 (hT0 c)
    omega
  have hle : sumN T N ≤ sumN S N := sumN_le fun c _ => hTS c
  have HA : Hid ((∀ c, 0 ≤ T c) ∧ (∀ c, 0 ≤ S c) ∧ TallyIs D T N ∧ (∀ c, S c = T c * ((k ^ c : Nat) : Int)) ∧ sumN S N < 9223372036854775808 ∧ 0 < sumN T N ∧ sumN T N ≤ sumN S N) := ⟨hT0, hS0, hT, hSc, hs, hm, hle⟩
  have hst1 := sumLeft_start hT T (fun _ h => h)
  have hst2 := sumLeft_start hT S (fun c h => by rw [hSc, h, Int.zero_mul])
  have HST : Hid (sumLeft T (Maps.has D) N = 0 ∧ sumLeft S (Maps.has D) N = 0) := ⟨hst1, hst2⟩
  have hbl := hown.lt
  obtain ⟨R, HR⟩ : ∃ R : Int, Hid ((sumN S N).tdiv (sumN T N) = R) := ⟨_, rfl⟩
  rw [HR.out]
  clear hT0 hT hSc hS0 hTS hle hs hm hst1 hst2 HS
  go_enter Try.func46, Try.ntmps46
  go_wp2_with (first
    | (at_range; refine wpList_range_own _ rfl _ 63 rfl 3 3 law3 und63 _ B n _ rfl hown ?_; intro w0 hrg0 hg0 hs0)
    | go_in)
  go_frame
  go_loopw [5, 6] (fun a b wr => ∃ (left : Lit → Bool) (cnt : Nat), wr.ranges Try.prog 3 (plainElem Try.prog 3) B w.heap.size n D left cnt ∧ a = .int .i64 (sumLeft T left N) ∧ b = .int .i64 (sumLeft S left N) ∧ Below w.heap.size w wr)
    (fun _ _ wr => wr.rangeLeft B w.heap.size)
  case atStart =>
    exact ⟨_, _, hrg0, by rw [HST.out.1], by rw [HST.out.2], (Below.refl _ _).grown hg0 (Nat.le_refl _) (fun j hj => by cases hj)⟩
  case round =>
    clear HST hrg0 hg0 hs0
    obtain ⟨left, cnt, hrg, rfl, rfl, hnx⟩ := hrel
    obtain ⟨t, Ht⟩ : ∃ t, Hid (sumLeft T left N = t) := ⟨_, rfl⟩
    obtain ⟨s, Hs⟩ : ∃ s, Hid (sumLeft S left N = s) := ⟨_, rfl⟩
    rw [Ht.out, Hs.out]
    go_wp2_with (first
      | (at_next; refine wpList_next_ranges_ii _ rfl _ rfl 3 3 .i64 .i64 law3 und3 und3 B w.heap.size n _ _ _ rfl hrg ?_ ?_)
      | go_in)
    · intro hc0 hl0
      have e1 : t = sumN T N := by rw [← Ht.out, sumLeft_all hl0]
      have e2 : s = sumN S N := by rw [← Hs.out, sumLeft_all hl0]
      obtain ⟨h1, h2, h3, h4, h5, h6, h7⟩ := HA.out
      rw [← e1] at h6 h7
      rw [← e2] at h5 h7
      have HRR : Hid (s / t = R) := by
        show s / t = R
        rw [← HR.out, ← e1, ← e2, Int.tdiv_eq_ediv_of_nonneg (by omega)]
      have hRb : R ≤ s := by rw [← HRR.out]; exact Int.ediv_le_self _ (by omega)
      have hR0 : 0 ≤ R := by rw [← HRR.out]; exact Int.ediv_nonneg (by omega) (by omega)
      have ht0 : t ≠ 0 := by omega
      have hRR := HRR.out
      clear h1 h2 h3 h4 e1 e2 hl0
      go_wp2
      go_ret
      exact ⟨ret_int hRR, hnx⟩
    · intro x c w1 cnt1 hwx hwc hlx hat hrg1 hlt hg1 hs1 hen
      obtain ⟨h1, h2, h3, h4, h5, h6, h7⟩ := HA.out
      obtain ⟨q, hq, rfl, hq0⟩ := (h3.has x).1 (has_true_of_atKey hat)
      have hcq : c = T q := by
        have := hat (.lit (.int .i64 0))
        rw [h3.at_ q hq hq0] at this
        simp only [DataW.lit.injEq, Lit.int.injEq, true_and] at this
        exact this.symm
      subst hcq
      have es1 := sumLeft_strike (T := T) hq hlx
      have es2 := sumLeft_strike (T := S) hq hlx
      rw [Ht.out] at es1
      rw [Hs.out] at es2
      have ht0 : 0 ≤ t := by rw [← Ht.out]; exact sumLeft_nonneg h1
      have hs0 : 0 ≤ s := by rw [← Hs.out]; exact sumLeft_nonneg h2
      have hl1 : t + T q ≤ sumN T N := by rw [← es1]; exact sumLeft_le h1
      have hl2 : s + S q ≤ sumN S N := by rw [← es2]; exact sumLeft_le h2
      have hTq := h1 q
      have hSq := h2 q
      have hSe := h4 q
      obtain ⟨p, Hp⟩ : ∃ p : Nat, Hid (k ^ q = p) := ⟨_, rfl⟩
      have hpl : k ^ q < 9223372036854775808 := by
        have hT1 : 1 ≤ T q := by omega
        have := Int.mul_le_mul_of_nonneg_right hT1 (Int.natCast_nonneg (k ^ q))
        rw [← hSe] at this
        omega
      have hP := power_any k q w1 (by omega) hpl (by omega)
      rw [Hp.out] at hSe hP
      rw [Hp.out] at hpl
      obtain ⟨tq, Htq⟩ : ∃ tq, Hid (T q = tq) := ⟨_, rfl⟩
      obtain ⟨sq, Hsq⟩ : ∃ sq, Hid (S q = sq) := ⟨_, rfl⟩
      rw [Htq.out] at hen hTq hSe es1 hl1 ⊢
      rw [Hsq.out] at hSq hSe es2 hl2
      have hmul : tq * (p : Int) = sq := hSe.symm
      have hb1 : t + tq < 9223372036854775808 := by omega
      have hb2 : s + sq < 9223372036854775808 := by omega
      have hsq2 : sq < 9223372036854775808 := by omega
      have HE : Hid (sumLeft T (fun z => left z && !z.sameKey (.int .i64 (q : Int))) N = t + tq ∧ sumLeft S (fun z => left z && !z.sameKey (.int .i64 (q : Int))) N = s + sq) := ⟨es1, es2⟩
      clear h1 h2 h3 h4 h5 h6 h7 es1 es2 hat hq0 hwx hwc hSe hl1 hl2
      go_wp2_with (go_at_call 66; refine hP.mono ?_; rintro e w2 ⟨rfl, rfl⟩)
      go_roundw
      case rel =>
        exact ⟨_, cnt1, hrg1, by rw [HE.out.1], by rw [HE.out.2], hnx.grown hg1 hnx.size (fun j hj => by cases hj; exact Nat.le_refl _)⟩
      case measure => rw [hrg1.left_eq, hrg.left_eq]; exact hlt

end Go.Proofs.Ytmaplmgecohjbaa

namespace Go.Proofs.Ytmaplmgecohjbaa
open Go.RowKit Go.Maps

theorem grown_of_below {A B : World} (h : Below A.heap.size A B) : A.grownBy B none := ⟨h.os, h.tape, h.output, h.size, fun k hk _ => h.block k hk⟩
theorem tally_below {w w' : World} {B n : Nat} {D : DataW Unit} (h : w.ownsMap Try.prog 3 (plainElem Try.prog 3) B n D) (hb : Below w.heap.size w w') : w'.ownsMap Try.prog 3 (plainElem Try.prog 3) B n D := h.kept (grown_of_below hb) (by simp)

/-- A new map of numbers has come. -/
def MapAns (w : World) (m N : Nat) (T : Nat → Int) (e : Ending) (w' : World) : Prop := ∃ (B : Nat) (D : DataW Unit), e = .returned (.map (some B)) ∧ w.heap.size ≤ B ∧ w'.ownsMap Try.prog 3 (plainElem Try.prog 3) B m D ∧ TallyIs D T N ∧ Below w.heap.size w w'

/-- So many turns among the first i lead on by c. -/
def turnT (n i c : Nat) : Int := sumN (fun j => if Nat.gcd n j = c then 1 else 0) i
theorem ind_nonneg (p : Nat → Prop) [DecidablePred p] (j : Nat) : (0 : Int) ≤ (if p j then 1 else 0) := by split <;> omega
theorem ind_sum_bd (p : Nat → Prop) [DecidablePred p] : ∀ i : Nat, 0 ≤ sumN (fun j => if p j then 1 else 0) i ∧ sumN (fun j => if p j then 1 else 0) i ≤ i
  | 0 => by simp [sumN]
  | i + 1 => by
    obtain ⟨h1, h2⟩ := ind_sum_bd p i
    rw [sumN]
    split <;> omega
theorem turnT_succ (n i c : Nat) : turnT n (i + 1) c = upd (turnT n i) (Nat.gcd n i) (turnT n i (Nat.gcd n i) + 1) c := by
  unfold upd turnT
  rw [sumN]
  by_cases e : c = Nat.gcd n i
  · rw [if_pos e, if_pos e.symm, e]
  · rw [if_neg e, if_neg (fun h => e h.symm), Int.add_zero]

set_option maxRecDepth 100000 in
set_option maxHeartbeats 1000000 in
theorem turns_any (n : Nat) (w : World) (h1 : 1 ≤ n) (hn : n ≤ 1000) :
    Calls Try.prog 29 #[.int .i64 (n : Int)] w fun e w' => MapAns w n (n + 2) (turnT n n) e w' := by
  have hmm := @run_makeMap Try.prog
  go_enter Try.func29, Try.ntmps29
  go_wp2
  go_loopw [7] (fun i wr => ∃ (k : Nat) (D : DataW Unit), i = .int .i64 (k : Int) ∧ k ≤ n ∧ wr.ownsMap Try.prog 3 (plainElem Try.prog 3) w.heap.size k D ∧ TallyIs D (turnT n k) (n + 2) ∧ Below w.heap.size w wr) (fun i _ => (n - intOf i).toNat)
  case atStart =>
    exact ⟨0, .map [], rfl, by omega, World.ownsMap_made _ _ _ _, (TallyIs.empty _).congr (fun c => rfl), balloc _ _⟩
  case round =>
    obtain ⟨k, D, rfl, hk, hown, hT, hB⟩ := hrel
    by_cases hlt : k < n
    · have hki : (k : Int) < n := by omega
      have hdec : decide ((k : Int) < n) = true := by simp; omega
      obtain ⟨g, Hg⟩ : ∃ g, Hid (Nat.gcd n k = g) := ⟨_, rfl⟩
      have hgn : g ≤ n := by rw [← Hg.out]; exact Nat.gcd_le_left _ (by omega)
      have hC := divisor_any n k
      rw [Hg.out] at hC
      have hbd : 0 ≤ turnT n k g ∧ turnT n k g ≤ k := ind_sum_bd (fun j => Nat.gcd n j = g) k
      go_wp2_with (first
        | (go_at_call 55; refine (hC _ (by omega) (by omega)).mono ?_; rintro e w1 ⟨rfl, hb1⟩; have hown1 := tally_below hown hb1; have hB1 := hB.trans (hb1.mono hB.size))
        | (at_lookup; refine wpList_lookup_own_int _ rfl _ _ 63 rfl 3 3 .i64 law3 und63 und3 (zero3 _) w.heap.size k _ rfl hown1 _ _ rfl (keyOf_int_mk und3 (WalkArith.wf_i64 (by omega))) ?_; intro c hat hwc; have hcx := hT.look (by omega) hat; have hc0 : 0 ≤ c := by rw [hcx]; exact hbd.1
           have hc1 : c ≤ k := by rw [hcx]; exact hbd.2)
        | (at_mapUpdate; refine wpList_mapUpdate_own _ rfl _ _ _ 63 rfl 3 3 law3 und63 _ w.heap.size _ _ rfl hown1 (by unfold maxLen; omega) _ _ _ rfl rfl (keyOf_int_mk und3 (WalkArith.wf_i64 (by omega))) _ [] (plainElem_int und3 (WalkArith.wf_i64 (by omega))) ?_; intro w2 hown2 hg2; go_frame)
        | go_in)
      go_roundw
      case rel =>
        refine ⟨k + 1, _, by go_num, by omega, hown2, ((hT.put (c := g) hown1.isMap (by omega) (v := turnT n k g + 1) (by omega))).congr (fun q => ?_), hB1.grown hg2 (by have := hB1.size; omega) (fun j hj => by cases hj; exact Nat.le_refl _)⟩
        rw [turnT_succ, Hg.out]
      case measure => simp [intOf]; omega
    · have hdec : decide ((k : Int) < n) = false := by simp; omega
      obtain rfl : k = n := by omega
      go_wp2
      go_ret
      exact ⟨w.heap.size, D, rfl, Nat.le_refl _, hown, hT, hB⟩

def overT (n i c : Nat) : Int := turnT n n c + sumN (fun j => if reflE n j = c then 1 else 0) i
theorem overT_succ (n i c : Nat) : overT n (i + 1) c = upd (overT n i) (reflE n i) (overT n i (reflE n i) + 1) c := by
  unfold upd overT
  rw [sumN]
  by_cases e : c = reflE n i
  · rw [if_pos e, if_pos e.symm, e]; omega
  · rw [if_neg e, if_neg (fun h => e h.symm), Int.add_zero]
theorem overT_bd (n i c : Nat) : 0 ≤ overT n i c ∧ overT n i c ≤ n + i := by
  have h1 := ind_sum_bd (fun j => Nat.gcd n j = c) n
  have h2 := ind_sum_bd (fun j => reflE n j = c) i
  unfold overT turnT
  omega
theorem reflE_le {n : Nat} (i : Nat) : reflE n i ≤ n + 1 := by unfold reflE; split <;> omega

set_option maxRecDepth 100000 in
set_option maxHeartbeats 1000000 in
theorem turnsOver_any (n : Nat) (w : World) (h1 : 1 ≤ n) (hn : n ≤ 1000) :
    Calls Try.prog 30 #[.int .i64 (n : Int)] w fun e w' => MapAns w (n + n) (n + 2) (overT n n) e w' := by
  go_enter Try.func30, Try.ntmps30
  go_wp2_with (go_at_call 29; refine (turns_any n _ h1 hn).mono ?_; rintro e w1 ⟨B, D0, rfl, hwB, hown0, hT0, hB0⟩)
  go_loopw [5, 9] (fun _ i wr => ∃ (k : Nat) (D : DataW Unit), i = .int .i64 (k : Int) ∧ k ≤ n ∧ wr.ownsMap Try.prog 3 (plainElem Try.prog 3) B (n + k) D ∧ TallyIs D (overT n k) (n + 2) ∧ Below w.heap.size w wr) (fun _ i _ => (n - intOf i).toNat)
  case atStart =>
    exact ⟨0, D0, rfl, by omega, hown0, hT0.congr (fun c => by simp [overT, sumN]), hB0⟩
  case round =>
    clear hown0 hT0 hB0
    obtain ⟨k, D, rfl, hk, hown, hT, hB⟩ := hrel
    by_cases hlt : k < n
    · have hki : (k : Int) < n := by omega
      have hdec : decide ((k : Int) < n) = true := by simp; omega
      obtain ⟨g, Hg⟩ : ∃ g, Hid (reflE n k = g) := ⟨_, rfl⟩
      have hgn : g ≤ n + 1 := by rw [← Hg.out]; exact reflE_le k
      have hbd := overT_bd n k g
      have hge := Hg.out
      unfold reflE at hge
      have hmn : (n : Int) % 2 = ((n % 2 : Nat) : Int) := by simp
      have hmk : (k : Int) % 2 = ((k % 2 : Nat) : Int) := by simp
      by_cases hn2 : n % 2 = 0
      · have hb1 : ((n : Int) % 2 == 0) = true := by rw [hmn, hn2]; rfl
        have hb1e : (n : Int) % 2 = 0 := by omega
        by_cases hk2 : k % 2 = 0
        · have hb2 : ((k : Int) % 2 == 0) = true := by rw [hmk, hk2]; rfl
          have hb2e : (k : Int) % 2 = 0 := by omega
          have hq : ((n : Int) + 2) / 2 = (g : Int) := by
            rw [if_pos ⟨hn2, hk2⟩] at hge; omega
          clear hmn hmk hge hn2 hk2
          go_wp2_with (first
            | (at_lookup; refine wpList_lookup_own_int _ rfl _ _ 63 rfl 3 3 .i64 law3 und63 und3 (zero3 _) B (n + k) _ rfl hown _ _ rfl (keyOf_int_mk und3 (WalkArith.wf_i64 (by omega))) ?_; intro c hat hwc; (try rw [hq] at hat); have hcx := hT.look (by omega) hat; have hc0 : 0 ≤ c := by rw [hcx]; exact hbd.1
               have hc1 : c ≤ n + k := by rw [hcx]; exact hbd.2)
            | (at_mapUpdate; refine wpList_mapUpdate_own _ rfl _ _ _ 63 rfl 3 3 law3 und63 _ B _ _ rfl hown (by unfold maxLen; omega) _ _ _ rfl rfl (keyOf_int_mk und3 (WalkArith.wf_i64 (by omega))) _ [] (plainElem_int und3 (WalkArith.wf_i64 (by omega))) ?_; intro w2 hown2 hg2; go_frame)
            | go_in)
          go_roundw
          case rel =>
            refine ⟨k + 1, _, by go_num, by omega, hown2, ?_, hB.grown hg2 hB.size (fun j hj => by cases hj; exact hwB)⟩
            (try rw [hq])
            refine ((hT.put (c := g) hown.isMap (by omega) (v := overT n k g + 1) (by omega))).congr (fun q => ?_)
            rw [overT_succ, Hg.out]
          case measure => simp [intOf]; omega
        · have hb2 : ((k : Int) % 2 == 0) = false := by rw [hmk]; simp; omega
          have hq : ((n : Int) + 0) / 2 = (g : Int) := by
            rw [if_neg (by omega), hn2] at hge; omega
          have hq0 : (n : Int) / 2 = (g : Int) := by omega
          clear hmn hmk hge hn2
          go_wp2_with (first
            | (at_lookup; refine wpList_lookup_own_int _ rfl _ _ 63 rfl 3 3 .i64 law3 und63 und3 (zero3 _) B (n + k) _ rfl hown _ _ rfl (keyOf_int_mk und3 (WalkArith.wf_i64 (by omega))) ?_; intro c hat hwc; (try rw [hq] at hat); (try rw [hq0] at hat); have hcx := hT.look (by omega) hat; have hc0 : 0 ≤ c := by rw [hcx]; exact hbd.1
               have hc1 : c ≤ n + k := by rw [hcx]; exact hbd.2)
            | (at_mapUpdate; refine wpList_mapUpdate_own _ rfl _ _ _ 63 rfl 3 3 law3 und63 _ B _ _ rfl hown (by unfold maxLen; omega) _ _ _ rfl rfl (keyOf_int_mk und3 (WalkArith.wf_i64 (by omega))) _ [] (plainElem_int und3 (WalkArith.wf_i64 (by omega))) ?_; intro w2 hown2 hg2; go_frame)
            | go_in)
          go_roundw
          case rel =>
            refine ⟨k + 1, _, by go_num, by omega, hown2, ?_, hB.grown hg2 hB.size (fun j hj => by cases hj; exact hwB)⟩
            (try rw [hq]); (try rw [hq0])
            refine ((hT.put (c := g) hown.isMap (by omega) (v := overT n k g + 1) (by omega))).congr (fun q => ?_)
            rw [overT_succ, Hg.out]
          case measure => simp [intOf]; omega
      · have hb1 : ((n : Int) % 2 == 0) = false := by rw [hmn]; simp; omega
        have hb1e : (n : Int) % 2 = 1 := by omega
        have hq : ((n : Int) + 1) / 2 = (g : Int) := by
          rw [if_neg (by omega)] at hge; omega
        clear hmn hmk hge hn2
        go_wp2_with (first
          | (at_lookup; refine wpList_lookup_own_int _ rfl _ _ 63 rfl 3 3 .i64 law3 und63 und3 (zero3 _) B (n + k) _ rfl hown _ _ rfl (keyOf_int_mk und3 (WalkArith.wf_i64 (by omega))) ?_; intro c hat hwc; (try rw [hq] at hat); have hcx := hT.look (by omega) hat; have hc0 : 0 ≤ c := by rw [hcx]; exact hbd.1
             have hc1 : c ≤ n + k := by rw [hcx]; exact hbd.2)
          | (at_mapUpdate; refine wpList_mapUpdate_own _ rfl _ _ _ 63 rfl 3 3 law3 und63 _ B _ _ rfl hown (by unfold maxLen; omega) _ _ _ rfl rfl (keyOf_int_mk und3 (WalkArith.wf_i64 (by omega))) _ [] (plainElem_int und3 (WalkArith.wf_i64 (by omega))) ?_; intro w2 hown2 hg2; go_frame)
          | go_in)
        go_roundw
        case rel =>
          refine ⟨k + 1, _, by go_num, by omega, hown2, ?_, hB.grown hg2 hB.size (fun j hj => by cases hj; exact hwB)⟩
          (try rw [hq])
          refine ((hT.put (c := g) hown.isMap (by omega) (v := overT n k g + 1) (by omega))).congr (fun q => ?_)
          rw [overT_succ, Hg.out]
        case measure => simp [intOf]; omega
    · have hdec : decide ((k : Int) < n) = false := by simp; omega
      obtain rfl : k = n := by omega
      go_wp2
      go_ret
      exact ⟨B, D, rfl, hwB, hown, hT, hB⟩

end Go.Proofs.Ytmaplmgecohjbaa
