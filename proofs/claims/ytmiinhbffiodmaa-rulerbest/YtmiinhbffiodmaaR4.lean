/- The walk of the document's WelchOf. -/
import Derived.Test.YtmiinhbffiodmaaR1
import Derived.Test.YtmiinhbffiodmaaRuB
import Derived.Test.YtmiinhbffiodmaaDL
import Derived.Test.YtmiinhbffiodmaaDfH
namespace Go.Proofs.Ytmiinhbffiodmaa
open Go.RowKit

theorem prN_of_sq' {p d : Nat} (hp : 1 < p) (hd : p < d * d) (h : ∀ e, 1 < e → e < d → p % e ≠ 0) : PrN p := by
  refine ⟨hp, fun e h1 h2 h3 => ?_⟩
  by_cases he : e < d
  · exact h e h1 he h3
  · obtain ⟨q, hq⟩ := Nat.dvd_of_mod_eq_zero h3
    have hq1 : 1 < q := by
      rcases q with _ | _ | q
      · omega
      · omega
      · omega
    have hqd : q < d := by
      by_cases hqd : q < d
      · exact hqd
      · have := Nat.mul_le_mul (show d ≤ e by omega) (show d ≤ q by omega)
        omega
    exact h q hq1 hqd (by rw [hq]; exact Nat.mul_mod_left e q)
/-- What IsPrime answers, of numbers that are not too great. -/
def PrX (n : Int) (e : Ending) : Prop := ∃ b : Bool, e = .returned (.bool b) ∧ (b = true ↔ ∃ p : Nat, n = p ∧ PrN p)
/-- The primes that Welch takes. -/
def wP (p : Nat) : Bool := p == 3 || p == 5 || p == 7 || p == 11 || p == 13
theorem prN_dec (p : Nat) : PrN p ↔ (decide (2 ≤ p) && (List.range p).all fun d => decide (d < 2) || p % d != 0) = true := by
  unfold PrN
  simp only [Bool.and_eq_true, decide_eq_true_eq, List.all_eq_true, List.mem_range, Bool.or_eq_true, bne_iff_ne, ne_eq]
  constructor
  · rintro ⟨h1, h2⟩
    refine ⟨h1, fun d hd => ?_⟩
    by_cases h : d < 2
    · exact .inl h
    · exact .inr (h2 d (by omega) hd)
  · rintro ⟨h1, h2⟩
    refine ⟨h1, fun d hd2 hd => ?_⟩
    rcases h2 d hd with h | h
    · omega
    · exact h
theorem wP_all : ∀ p : Fin 14, 3 ≤ p.val → (decide (2 ≤ p.val) && (List.range p.val).all fun d => decide (d < 2) || p.val % d != 0) = wP p.val := by decide +kernel
theorem wP_prime {p : Nat} (h3 : 3 ≤ p) (h13 : p ≤ 13) : PrN p ↔ wP p = true := by
  rw [prN_dec, ← wP_all ⟨p, by omega⟩ h3]
def weL (p r k : Nat) : List Nat := (List.range k).map (wlF p r)
theorem weL_up (p r k : Nat) : weL p r (k + 1) = weL p r k ++ [wlF p r k] := by
  unfold weL
  rw [List.range_succ, List.map_append]
  rfl
theorem weL_len (p r k : Nat) : (weL p r k).length = k := by simp [weL]
theorem weL_no {p r k n : Nat} (hk : k < n) (h : wlF p r k ∈ weL p r k) : ¬ (weL p r n).Nodup := fun hn => by
  obtain ⟨j, hj, e⟩ := List.mem_map.1 h
  have hj' := List.mem_range.1 hj
  unfold weL at hn
  rw [List.nodup_iff_pairwise_ne, List.pairwise_map] at hn
  have := List.pairwise_iff_getElem.1 hn j k (by simp; omega) (by simpa using hk) hj'
  rw [List.getElem_range, List.getElem_range] at this
  exact this e
theorem weL_yes {p r k : Nat} (h : (weL p r k).Nodup) (hn : wlF p r k ∉ weL p r k) : (weL p r (k + 1)).Nodup := by
  rw [weL_up, List.nodup_append]
  exact ⟨h, by simp, fun a ha b hb => by rw [List.mem_singleton.1 hb]; exact fun e => hn (e ▸ ha)⟩
theorem welch_pos : ∀ p : Fin 14, ∀ r : Fin 14, ∀ i : Fin 14, wP p.val = true → 1 ≤ r.val → r.val < p.val → 1 ≤ r.val ^ i.val % p.val := by decide +kernel
theorem welch_step (p r i : Nat) : r ^ i % p * r % p = r ^ (i + 1) % p := by rw [Nat.mod_mul_mod, Nat.pow_succ]

end Go.Proofs.Ytmiinhbffiodmaa
