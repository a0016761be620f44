/- Bracelets: half of the rings and of those that are their own mirror; nothing of the program. -/
import Derived.Test.YtmaplmgecohjbaaCRing
namespace Go.Proofs.Ytmaplmgecohjbaa

/-- The document's rings that are their own mirror. -/
def ownS (n k : Nat) : Nat := if n % 2 = 1 then k ^ ((n + 1) / 2) else k ^ (n / 2) / 2 + k ^ (n / 2 + 1) / 2 + (if k ^ (n / 2) % 2 = 1 ∧ k ^ (n / 2 + 1) % 2 = 1 then 1 else 0)
/-- The exponent of the i-th turning over. -/
def reflE (n i : Nat) : Nat := (n + (if n % 2 = 0 ∧ i % 2 = 0 then 2 else n % 2)) / 2
def reflS (n k : Nat) : Int := sumN (fun i => ((k ^ reflE n i : Nat) : Int)) n
theorem own_two {n k : Nat} (h0 : 0 < n) (h : n % 2 = 0) : 2 * ownS n k = k ^ (n / 2) + k ^ (n / 2 + 1) := by
  unfold ownS
  rw [if_neg (by omega)]
  obtain ⟨m, hm⟩ : ∃ m, n / 2 = m + 1 := ⟨n / 2 - 1, by omega⟩
  rw [hm]
  have e1 : k ^ (m + 1 + 1) = k ^ (m + 1) * k := Nat.pow_succ ..
  have e2 : k ^ (m + 1) = k ^ m * k := Nat.pow_succ ..
  have p1 : k ^ (m + 1 + 1) % 2 = (k ^ (m + 1) % 2) * (k % 2) % 2 := by rw [e1, Nat.mul_mod]
  have p2 : k ^ (m + 1) % 2 = (k ^ m % 2) * (k % 2) % 2 := by rw [e2, Nat.mul_mod]
  rcases Nat.mod_two_eq_zero_or_one k with hk | hk
  · rw [hk, Nat.mul_zero] at p1 p2
    rw [if_neg (by omega)]; omega
  · rw [hk, Nat.mul_one] at p1
    by_cases e : k ^ (m + 1) % 2 = 1
    · rw [if_pos ⟨e, by omega⟩]; omega
    · rw [if_neg (by omega)]; omega
theorem refl_even (k e : Nat) : ∀ m : Nat, sumN (fun i => ((k ^ ((2 * e + (if i % 2 = 0 then 2 else 0)) / 2) : Nat) : Int)) (2 * m) = m * ((k ^ e : Nat) + (k ^ (e + 1) : Nat) : Int)
  | 0 => by simp [sumN]
  | m + 1 => by
    have e1 : (2 * e + (if (2 * m) % 2 = 0 then 2 else 0)) / 2 = e + 1 := by rw [if_pos (by omega)]; omega
    have e2 : (2 * e + (if (2 * m + 1) % 2 = 0 then 2 else 0)) / 2 = e := by rw [if_neg (by omega)]; omega
    rw [show 2 * (m + 1) = 2 * m + 1 + 1 by omega, sumN, sumN, refl_even k e m, e1, e2, Int.natCast_succ, Int.add_mul, Int.one_mul]
    omega
theorem reflS_own {n k : Nat} (h0 : 0 < n) : reflS n k = n * (ownS n k : Int) := by
  unfold reflS
  rcases Nat.mod_two_eq_zero_or_one n with h | h
  · have h2 := own_two (k := k) h0 h
    have e : sumN (fun i => ((k ^ reflE n i : Nat) : Int)) n = sumN (fun i => ((k ^ ((2 * (n / 2) + (if i % 2 = 0 then 2 else 0)) / 2) : Nat) : Int)) (2 * (n / 2)) := by
      have hn : 2 * (n / 2) = n := by omega
      rw [hn]
      refine sumN_congr fun i _ => ?_
      unfold reflE
      by_cases hi : i % 2 = 0
      · rw [if_pos ⟨h, hi⟩, if_pos hi]
      · rw [if_neg (by omega), if_neg hi, h]
    rw [e, refl_even]
    have h3 : ((k ^ (n / 2) : Nat) : Int) + ((k ^ (n / 2 + 1) : Nat) : Int) = 2 * (ownS n k : Int) := by omega
    rw [h3]
    have hn : (n : Int) = ((n / 2 : Nat) : Int) * 2 := by omega
    conv => rhs; rw [hn]
    rw [Int.mul_assoc]
  · have e : sumN (fun i => ((k ^ reflE n i : Nat) : Int)) n = sumN (fun _ => ((k ^ ((n + 1) / 2) : Nat) : Int)) n := by
      refine sumN_congr fun i _ => ?_
      unfold reflE
      rw [if_neg (by omega), h]
    rw [e, sumN_const]
    unfold ownS
    rw [if_pos h]
theorem turnS_nonneg (n k : Nat) : 0 ≤ turnS n k := sumN_nonneg fun _ _ => Int.natCast_nonneg _
theorem docB_nonneg {n k : Nat} (h0 : 0 < n) (h : n < 60) : 0 ≤ docB n k := by
  have e := ring_eq (k := k) h0 h
  have p := turnS_nonneg n k
  rw [← e] at p
  by_cases hb : 0 ≤ docB n k
  · exact hb
  · have : docB n k * n < 0 := Int.mul_neg_of_neg_of_pos (by omega) (by omega)
    omega
/-- The document's bracelets. -/
def docBr (n k : Nat) : Int := (docB n k).tdiv 2 + (ownS n k : Int).tdiv 2 + ((docB n k).tmod 2 + (ownS n k : Int).tmod 2).tdiv 2
theorem brac_eq {n k : Nat} (h0 : 0 < n) (h : n < 60) : (turnS n k + reflS n k).tdiv (2 * n : Int) = docBr n k := by
  have hb := docB_nonneg (k := k) h0 h
  rw [reflS_own h0, ← ring_eq h0 h]
  have e : docB n k * (n : Int) + n * (ownS n k : Int) = n * (docB n k + ownS n k) := by rw [Int.mul_add, Int.mul_comm (docB n k)]
  rw [e, show (2 * n : Int) = n * 2 from Int.mul_comm _ _, Int.mul_tdiv_mul_of_pos _ _ (by omega)]
  unfold docBr
  generalize docB n k = b at *
  generalize ownS n k = o at *
  rw [Int.tdiv_eq_ediv_of_nonneg (by omega), Int.tdiv_eq_ediv_of_nonneg (by omega), Int.tdiv_eq_ediv_of_nonneg (by omega), Int.tmod_eq_emod_of_nonneg (by omega), Int.tmod_eq_emod_of_nonneg (by omega), Int.tdiv_eq_ediv_of_nonneg (by omega)]
  omega

/-! ### nothing is too great -/
theorem turnS_le {n k : Nat} (h0 : 0 < n) (hk : 2 ≤ k) : turnS n k ≤ ((k ^ n : Nat) : Int) + n * ((k ^ (n / 2) : Nat) : Int) := by
  unfold turnS
  obtain ⟨m, rfl⟩ : ∃ m, n = m + 1 := ⟨n - 1, by omega⟩
  have e : ∀ m', m' ≤ m → sumN (fun i => ((k ^ Nat.gcd (m + 1) i : Nat) : Int)) (m' + 1) ≤ ((k ^ (m + 1) : Nat) : Int) + (m' : Int) * ((k ^ ((m + 1) / 2) : Nat) : Int) := by
    intro m'
    induction m' with
    | zero => intro _; simp [sumN]
    | succ j ih =>
      intro hj
      rw [sumN]
      have i1 := ih (by omega)
      have hg : Nat.gcd (m + 1) (j + 1) ≤ (m + 1) / 2 := by
        obtain ⟨q, hq⟩ := Nat.gcd_dvd_left (m + 1) (j + 1)
        have g1 := Nat.gcd_le_right (n := j + 1) (m + 1) (by omega)
        have hq2 : 2 ≤ q := by
          rcases q with _ | _ | q
          · omega
          · omega
          · omega
        have := Nat.mul_le_mul_left (Nat.gcd (m + 1) (j + 1)) hq2
        omega
      have hp : k ^ Nat.gcd (m + 1) (j + 1) ≤ k ^ ((m + 1) / 2) := Nat.pow_le_pow_right (by omega) hg
      rw [Int.natCast_succ, Int.add_mul, Int.one_mul]; omega
  have := e m (Nat.le_refl _)
  refine Int.le_trans this ?_
  have h1 : (0 : Int) ≤ ((k ^ ((m + 1) / 2) : Nat) : Int) := Int.natCast_nonneg _
  rw [Int.natCast_succ, Int.add_mul, Int.one_mul]; omega
/-- Of two colours and more there are few beads. -/
theorem few_beads {n k : Nat} (hk : 2 ≤ k) (h : k ^ n ≤ 1000000000000000000) : n < 60 := by
  by_cases e : n < 60
  · exact e
  · have h1 : 2 ^ 60 ≤ 2 ^ n := Nat.pow_le_pow_right (by omega) (by omega)
    have h2 : 2 ^ n ≤ k ^ n := Nat.pow_le_pow_left hk n
    have h3 : (1000000000000000000 : Nat) < 2 ^ 60 := by decide
    omega
theorem half_small {n k : Nat} (hk : 2 ≤ k) (h : k ^ n ≤ 1000000000000000000) : k ^ (n / 2) ≤ 1000000000 := by
  by_cases e : k ^ (n / 2) ≤ 1000000000
  · exact e
  · have h1 : k ^ (n / 2) * k ^ (n / 2) ≤ k ^ n := by
      rw [← Nat.pow_add]; exact Nat.pow_le_pow_right (by omega) (by omega)
    have h2 : 1000000001 * 1000000001 ≤ k ^ (n / 2) * k ^ (n / 2) := Nat.mul_le_mul (by omega) (by omega)
    omega
theorem turnS_small {n k : Nat} (hk : 2 ≤ k) (h0 : 0 < n) (h : k ^ n ≤ 1000000000000000000) : turnS n k ≤ 1000000060000000000 := by
  have h1 := turnS_le h0 hk
  have h2 := half_small hk h
  have h3 := few_beads hk h
  have h4 : (n : Int) * ((k ^ (n / 2) : Nat) : Int) ≤ 60 * 1000000000 := by
    rw [← Int.natCast_mul]
    have := Nat.mul_le_mul (show n ≤ 60 by omega) h2
    omega
  omega
theorem own_small {n k : Nat} (hk : 2 ≤ k) (h0 : 0 < n) (h : k ^ n ≤ 1000000000000000000) : (n : Int) * (ownS n k : Int) ≤ 3000000000000000000 := by
  have h3 := few_beads hk h
  by_cases e1 : n ≤ 2
  · have hs : ownS n k ≤ k ^ n := by
      rcases (show n = 1 ∨ n = 2 by omega) with rfl | rfl
      · exact Nat.le_refl _
      · have := own_two (n := 2) (k := k) (by omega) rfl
        have e : k ^ (2 / 2) ≤ k ^ 2 := Nat.pow_le_pow_right (by omega) (by omega)
        have e' : k ^ (2 / 2 + 1) = k ^ 2 := rfl
        omega
    have := Nat.mul_le_mul e1 hs
    rw [← Int.natCast_mul]; omega
  · -- k ^ (n / 2 + 1) times k ^ (n / 2 - 1) is at most k ^ n
    have hs : ownS n k ≤ k ^ (n / 2 + 1) := by
      rcases Nat.mod_two_eq_zero_or_one n with h' | h'
      · have := own_two (k := k) h0 h'
        have e : k ^ (n / 2) ≤ k ^ (n / 2 + 1) := Nat.pow_le_pow_right (by omega) (by omega)
        omega
      · unfold ownS; rw [if_pos h', show (n + 1) / 2 = n / 2 + 1 by omega]; exact Nat.le_refl _
    have h5 : k ^ (n / 2 + 1) * 2 ^ (n / 2 - 1) ≤ k ^ n := by
      refine Nat.le_trans (Nat.mul_le_mul_left _ (Nat.pow_le_pow_left hk _)) ?_
      rw [← Nat.pow_add]; exact Nat.pow_le_pow_right (by omega) (by omega)
    have h6 : ∀ n, n < 60 → 2 < n → n ≤ 3 * 2 ^ (n / 2 - 1) := by decide
    have h7 := h6 n h3 (by omega)
    have h8 : n * ownS n k ≤ 3 * 2 ^ (n / 2 - 1) * k ^ (n / 2 + 1) := Nat.mul_le_mul h7 hs
    have h9 : 3 * 2 ^ (n / 2 - 1) * k ^ (n / 2 + 1) = 3 * (k ^ (n / 2 + 1) * 2 ^ (n / 2 - 1)) := by rw [Nat.mul_assoc, Nat.mul_comm (2 ^ (n / 2 - 1))]
    rw [← Int.natCast_mul]; omega
theorem reflS_small {n k : Nat} (hk : 2 ≤ k) (h0 : 0 < n) (h : k ^ n ≤ 1000000000000000000) : reflS n k ≤ 3000000000000000000 := by
  rw [reflS_own h0]; exact own_small hk h0 h

end Go.Proofs.Ytmaplmgecohjbaa
