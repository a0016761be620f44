/- The walk of the document's WelchOf. -/
import Derived.Test.YtmiinhbffiodmaaDoorR1
import Derived.Test.YtmiinhbffiodmaaDoorRuB
import Derived.Test.YtmiinhbffiodmaaDoorDL
import Derived.Test.YtmiinhbffiodmaaDoorDfH
namespace Go.Proofs.YtmiinhbffiodmaaDoor
open Go.RowKit

theorem prN_of_sq' {p d : Nat} (hp : 1 < p) (hd : p < d * d) (h : ∀ e, 1 < e → e < d → p % e ≠ 0) : PrN p := by
  refine ⟨hp, fun e h1 h2 h3 => ?_⟩
  by_cases he : e < d
  · exact h e h1 he h3
  · obtain ⟨q, hq⟩ := Nat.dvd_of_mod_eq_zero h3
    have hq1 : 1 < q := by
      rcases q with _ | _ | q
      · omega
      · omega
      · omega
    have hqd : q < d := by
      by_cases hqd : q < d
      · exact hqd
      · have := Nat.mul_le_mul (show d ≤ e by omega) (show d ≤ q by omega)
        omega
    exact h q hq1 hqd (by rw [hq]; exact Nat.mul_mod_left e q)
/-- What IsPrime answers, of numbers that are not too great. -/
def PrX (n : Int) (e : Ending) : Prop := ∃ b : Bool, e = .returned (.bool b) ∧ (b = true ↔ ∃ p : Nat, n = p ∧ PrN p)
set_option maxHeartbeats 400000 in
theorem IsPrimeX_any (n : Int) (w : World) (hn : n ≤ 100000) :
    Calls Tryd.prog 26 #[.int .i64 n] w fun e w' => PrX n e ∧ w' = w := by
  by_cases h2 : n < 2
  · have hno : ¬ ∃ p : Nat, n = p ∧ PrN p := fun ⟨p, e, hp⟩ => by have := hp.1; omega
    go_enter Tryd.func26, Tryd.ntmps26
    go_wp2
    go_ret
    exact ⟨⟨false, rfl, ⟨fun h => (by cases h), fun h => absurd h hno⟩⟩, rfl⟩
  · have hd2 : decide (n < 2) = false := by simpa using h2
    have hd1 : decide (100000 < n) = false := by simp; omega
    have hd1' : ¬ 100000 < n := by omega
    obtain ⟨m, rfl⟩ := Int.eq_ofNat_of_zero_le (show 0 ≤ n by omega)
    go_enter Tryd.func26, Tryd.ntmps26
    go_wp2
    go_loop [3] (fun i => ∃ d : Nat, 2 ≤ d ∧ d ≤ 1000 ∧ i = .int .i64 d ∧ Hid (∀ e, 1 < e → e < d → m % e ≠ 0)) (fun i => (1000 - intOf i).toNat)
    case atStart => exact ⟨2, by omega, by omega, rfl, (fun e h1 h2 => by omega : ∀ e, 1 < e → e < 2 → m % e ≠ 0)⟩
    case round =>
      obtain ⟨d, hd2', hd9, rfl, HN⟩ := hrel
      have hmm : d * d ≤ 1000000 := Nat.mul_le_mul hd9 hd9
      have hmi : ((d * d : Nat) : Int) = (d : Int) * d := by simp
      have hz : (0 : Int) ≤ (d : Int) * d := by omega
      have hz2 : (d : Int) * d ≤ 1000000 := by omega
      by_cases hle : d * d ≤ m
      · have hle' : (d : Int) * d ≤ m := by omega
        have hdm : d < m := by
          have : 2 * d ≤ d * d := Nat.mul_le_mul_right _ hd2'
          omega
        have hd8 : d < 1000 := by
          apply Classical.byContradiction; intro h
          have : 1000 * 1000 ≤ d * d := Nat.mul_le_mul (by omega) (by omega)
          omega
        clear hmi
        by_cases hr : m % d = 0
        · have hb : ((m : Int) % (d : Int) == 0) = true := by simp; omega
          have HNo : Hid (¬ ∃ p : Nat, (m : Int) = p ∧ PrN p) := fun ⟨p, e, hp⟩ => by
            obtain rfl : m = p := by omega
            exact hp.2 d hd2' hdm hr
          clear hr
          go_wp2
          go_ret
          exact ⟨⟨false, rfl, ⟨fun h => (by cases h), fun h => absurd h HNo.out⟩⟩, rfl⟩
        · have hb : ((m : Int) % (d : Int) == 0) = false := by simp; omega
          have HN' : Hid (∀ e, 1 < e → e < d + 1 → m % e ≠ 0) := by
            intro e h1 h2
            by_cases he : e = d
            · rw [he]; exact hr
            · exact HN.out e h1 (by omega)
          clear hr
          go_wp2
          go_round
          case rel => exact ⟨d + 1, by omega, by omega, by go_num, HN'⟩
          case measure => simp [intOf]; omega
      · have hle' : ¬ (d : Int) * d ≤ m := by omega
        have HO : Hid (PrN m) := prN_of_sq' (by omega) (by omega) HN.out
        clear hmi
        go_wp2
        go_ret
        exact ⟨⟨true, rfl, ⟨fun _ => ⟨m, rfl, HO.out⟩, fun _ => rfl⟩⟩, rfl⟩
/-- The primes that Welch takes. -/
def wP (p : Nat) : Bool := p == 3 || p == 5 || p == 7 || p == 11 || p == 13
theorem prN_dec (p : Nat) : PrN p ↔ (decide (2 ≤ p) && (List.range p).all fun d => decide (d < 2) || p % d != 0) = true := by
  unfold PrN
  simp only [Bool.and_eq_true, decide_eq_true_eq, List.all_eq_true, List.mem_range, Bool.or_eq_true, bne_iff_ne, ne_eq]
  constructor
  · rintro ⟨h1, h2⟩
    refine ⟨h1, fun d hd => ?_⟩
    by_cases h : d < 2
    · exact .inl h
    · exact .inr (h2 d (by omega) hd)
  · rintro ⟨h1, h2⟩
    refine ⟨h1, fun d hd2 hd => ?_⟩
    rcases h2 d hd with h | h
    · omega
    · exact h
theorem wP_all : ∀ p : Fin 14, 3 ≤ p.val → (decide (2 ≤ p.val) && (List.range p.val).all fun d => decide (d < 2) || p.val % d != 0) = wP p.val := by decide +kernel
theorem wP_prime {p : Nat} (h3 : 3 ≤ p) (h13 : p ≤ 13) : PrN p ↔ wP p = true := by
  rw [prN_dec, ← wP_all ⟨p, by omega⟩ h3]
theorem IsPrimeW (p : Nat) (w : World) (h3 : 3 ≤ p) (h13 : p ≤ 13) : Calls Tryd.prog 26 #[.int .i64 (p : Int)] w fun e w' => e = .returned (.bool (wP p)) ∧ w' = w := by
  refine (IsPrimeX_any (p : Int) w (by omega)).mono ?_
  rintro e w' ⟨⟨b, rfl, hb⟩, rfl⟩
  refine ⟨?_, rfl⟩
  rw [show b = wP p from by
    rw [Bool.eq_iff_iff, hb, ← wP_prime h3 h13]
    constructor
    · rintro ⟨q, e, hq⟩
      obtain rfl : p = q := by omega
      exact hq
    · exact fun h => ⟨p, rfl, h⟩]
def weL (p r k : Nat) : List Nat := (List.range k).map (wlF p r)
theorem weL_up (p r k : Nat) : weL p r (k + 1) = weL p r k ++ [wlF p r k] := by
  unfold weL
  rw [List.range_succ, List.map_append]
  rfl
theorem weL_len (p r k : Nat) : (weL p r k).length = k := by simp [weL]
theorem weL_no {p r k n : Nat} (hk : k < n) (h : wlF p r k ∈ weL p r k) : ¬ (weL p r n).Nodup := fun hn => by
  obtain ⟨j, hj, e⟩ := List.mem_map.1 h
  have hj' := List.mem_range.1 hj
  unfold weL at hn
  rw [List.nodup_iff_pairwise_ne, List.pairwise_map] at hn
  have := List.pairwise_iff_getElem.1 hn j k (by simp; omega) (by simpa using hk) hj'
  rw [List.getElem_range, List.getElem_range] at this
  exact this e
theorem weL_yes {p r k : Nat} (h : (weL p r k).Nodup) (hn : wlF p r k ∉ weL p r k) : (weL p r (k + 1)).Nodup := by
  rw [weL_up, List.nodup_append]
  exact ⟨h, by simp, fun a ha b hb => by rw [List.mem_singleton.1 hb]; exact fun e => hn (e ▸ ha)⟩
theorem welch_pos : ∀ p : Fin 14, ∀ r : Fin 14, ∀ i : Fin 14, wP p.val = true → 1 ≤ r.val → r.val < p.val → 1 ≤ r.val ^ i.val % p.val := by decide +kernel
theorem welch_step (p r i : Nat) : r ^ i % p * r % p = r ^ (i + 1) % p := by rw [Nat.mod_mul_mod, Nat.pow_succ]

end Go.Proofs.YtmiinhbffiodmaaDoor
