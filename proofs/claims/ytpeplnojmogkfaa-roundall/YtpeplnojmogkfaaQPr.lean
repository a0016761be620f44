/- The document's IsPrime, walked. -/
import Derived.Test.YtpeplnojmogkfaaLA
namespace Go.Proofs.Ytpeplnojmogkfaa
open Go.RowKit

def PrN (p : Nat) : Prop := 2 ≤ p ∧ ∀ d, 2 ≤ d → d < p → p % d ≠ 0
theorem prN_of_sq' {p d : Nat} (hp : 1 < p) (hd : p < d * d) (h : ∀ e, 1 < e → e < d → p % e ≠ 0) : PrN p := by
  refine ⟨hp, fun e h1 h2 h3 => ?_⟩
  by_cases he : e < d
  · exact h e h1 he h3
  · obtain ⟨q, hq⟩ := Nat.dvd_of_mod_eq_zero h3
    have hq1 : 1 < q := by
      rcases q with _ | _ | q
      · omega
      · omega
      · omega
    have hqd : q < d := by
      by_cases hqd : q < d
      · exact hqd
      · have := Nat.mul_le_mul (show d ≤ e by omega) (show d ≤ q by omega)
        omega
    exact h q hq1 hqd (by rw [hq]; exact Nat.mul_mod_left e q)
/-- What IsPrime answers, of numbers that are not too great. -/
def PrX (n : Int) (e : Ending) : Prop := ∃ b : Bool, e = .returned (.bool b) ∧ (b = true ↔ ∃ p : Nat, n = p ∧ PrN p)
set_option maxRecDepth 100000 in
set_option maxHeartbeats 1000000 in
theorem IsPrimeX_any (n : Int) (w : World) (hn : n ≤ 100000) :
    Calls Try.prog 24 #[.int .i64 n] w fun e w' => PrX n e ∧ w' = w := by
  by_cases h2 : n < 2
  · have hno : ¬ ∃ p : Nat, n = p ∧ PrN p := fun ⟨p, e, hp⟩ => by have := hp.1; omega
    go_enter Try.func24, Try.ntmps24
    go_wp2
    go_ret
    exact ⟨⟨false, rfl, ⟨fun h => (by cases h), fun h => absurd h hno⟩⟩, rfl⟩
  · have hd2 : decide (n < 2) = false := by simpa using h2
    have hd1 : decide (100000 < n) = false := by simp; omega
    have hd1' : ¬ 100000 < n := by omega
    obtain ⟨m, rfl⟩ := Int.eq_ofNat_of_zero_le (show 0 ≤ n by omega)
    go_enter Try.func24, Try.ntmps24
    go_wp2
    go_loop [3] (fun i => ∃ d : Nat, 2 ≤ d ∧ d ≤ 1000 ∧ i = .int .i64 d ∧ Hid (∀ e, 1 < e → e < d → m % e ≠ 0)) (fun i => (1000 - intOf i).toNat)
    case atStart => exact ⟨2, by omega, by omega, rfl, (fun e h1 h2 => by omega : ∀ e, 1 < e → e < 2 → m % e ≠ 0)⟩
    case round =>
      obtain ⟨d, hd2', hd9, rfl, HN⟩ := hrel
      have hmm : d * d ≤ 1000000 := Nat.mul_le_mul hd9 hd9
      have hmi : ((d * d : Nat) : Int) = (d : Int) * d := by simp
      have hz : (0 : Int) ≤ (d : Int) * d := by omega
      have hz2 : (d : Int) * d ≤ 1000000 := by omega
      by_cases hle : d * d ≤ m
      · have hle' : (d : Int) * d ≤ m := by omega
        have hdm : d < m := by
          have : 2 * d ≤ d * d := Nat.mul_le_mul_right _ hd2'
          omega
        have hd8 : d < 1000 := by
          apply Classical.byContradiction; intro h
          have : 1000 * 1000 ≤ d * d := Nat.mul_le_mul (by omega) (by omega)
          omega
        clear hmi
        by_cases hr : m % d = 0
        · have hb : ((m : Int) % (d : Int) == 0) = true := by simp; omega
          have HNo : Hid (¬ ∃ p : Nat, (m : Int) = p ∧ PrN p) := fun ⟨p, e, hp⟩ => by
            obtain rfl : m = p := by omega
            exact hp.2 d hd2' hdm hr
          clear hr
          go_wp2
          go_ret
          exact ⟨⟨false, rfl, ⟨fun h => (by cases h), fun h => absurd h HNo.out⟩⟩, rfl⟩
        · have hb : ((m : Int) % (d : Int) == 0) = false := by simp; omega
          have HN' : Hid (∀ e, 1 < e → e < d + 1 → m % e ≠ 0) := by
            intro e h1 h2
            by_cases he : e = d
            · rw [he]; exact hr
            · exact HN.out e h1 (by omega)
          clear hr
          go_wp2
          go_round
          case rel => exact ⟨d + 1, by omega, by omega, by go_num, HN'⟩
          case measure => simp [intOf]; omega
      · have hle' : ¬ (d : Int) * d ≤ m := by omega
        have HO : Hid (PrN m) := prN_of_sq' (by omega) (by omega) HN.out
        clear hmi
        go_wp2
        go_ret
        exact ⟨⟨true, rfl, ⟨fun _ => ⟨m, rfl, HO.out⟩, fun _ => rfl⟩⟩, rfl⟩
theorem prN_dec (p : Nat) : PrN p ↔ (decide (2 ≤ p) && (List.range p).all fun d => decide (d < 2) || p % d != 0) = true := by
  unfold PrN
  simp only [Bool.and_eq_true, decide_eq_true_eq, List.all_eq_true, List.mem_range, Bool.or_eq_true, bne_iff_ne, ne_eq]
  constructor
  · rintro ⟨h1, h2⟩
    refine ⟨h1, fun d hd => ?_⟩
    by_cases h : d < 2
    · exact .inl h
    · exact .inr (h2 d (by omega) hd)
  · rintro ⟨h1, h2⟩
    refine ⟨h1, fun d hd2 hd => ?_⟩
    rcases h2 d hd with h | h
    · omega
    · exact h
theorem not_nine : ¬ PrN 9 := fun h => h.2 3 (by decide) (by decide) (by decide)
theorem not_fifteen : ¬ PrN 15 := fun h => h.2 3 (by decide) (by decide) (by decide)
end Go.Proofs.Ytpeplnojmogkfaa
