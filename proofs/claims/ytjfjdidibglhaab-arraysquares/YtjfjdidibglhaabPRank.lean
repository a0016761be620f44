/- Ranks: how many are ahead; nothing of the program. -/
import Derived.Test.YtjfjdidibglhaabPSign
namespace Go.Proofs.Ytjfjdidibglhaab

def fac : Nat → Nat
  | 0 => 1
  | n + 1 => fac n * (n + 1)
theorem fac_pos : ∀ n, 1 ≤ fac n
  | 0 => by decide
  | n + 1 => Nat.mul_pos (fac_pos n) (by omega)
theorem fac_mono {a b : Nat} (h : a ≤ b) : fac a ≤ fac b := by
  induction b with
  | zero => rw [show a = 0 by omega]; exact Nat.le_refl _
  | succ b ih =>
    by_cases e : a = b + 1
    · subst e; exact Nat.le_refl _
    · exact Nat.le_trans (ih (by omega)) (Nat.le_mul_of_pos_right _ (by omega))
theorem fac_le {n : Nat} (h : n ≤ 12) : fac n ≤ 479001600 := fac_mono h
/-- How many behind place i are less. -/
def les (f : Nat → Nat) (i : Nat) (m : Nat) : Nat := (List.range m).countP fun j => decide (i < j) && decide (f j < f i)
theorem les_succ (f : Nat → Nat) (i m : Nat) : les f i (m + 1) = les f i m + if i < m ∧ f m < f i then 1 else 0 := by
  unfold les
  rw [List.range_succ, List.countP_append, List.countP_singleton]
  by_cases h1 : i < m <;> by_cases h2 : f m < f i <;> simp [h1, h2]
theorem les_low (f : Nat → Nat) (i : Nat) : ∀ m, m ≤ i + 1 → les f i m = 0
  | 0, _ => rfl
  | m + 1, h => by rw [les_succ, les_low f i m (by omega), if_neg (by omega)]
theorem les_le (f : Nat → Nat) (i : Nat) : ∀ m, les f i m ≤ m - (i + 1)
  | 0 => by simp [les]
  | m + 1 => by
    have := les_le f i m
    rw [les_succ]
    split <;> omega
/-- How many less ones stand at none of the first i places. -/
def fre (f : Nat → Nat) (i : Nat) (m : Nat) : Nat := (List.range m).countP fun x => (List.range i).all fun j => f j != x
theorem fre_succ (f : Nat → Nat) (i m : Nat) : fre f i (m + 1) = fre f i m + if ((List.range i).all fun j => f j != m) = true then 1 else 0 := by
  unfold fre
  rw [List.range_succ, List.countP_append, List.countP_singleton]
theorem countP_cut (p : Nat → Bool) (a : Nat) : ∀ n, a ≤ n → (List.range a).countP p = (List.range n).countP fun x => decide (x < a) && p x := by
  intro n h
  induction n with
  | zero => rw [show a = 0 by omega]; rfl
  | succ n ih =>
    by_cases e : a = n + 1
    · subst e
      exact List.countP_congr fun x hx => by simp [List.mem_range.1 hx]
    · rw [List.range_succ, List.countP_append, ← ih (by omega), List.countP_singleton]
      have : decide (n < a) = false := by simp; omega
      simp [this]
theorem fre_les {n : Nat} {f : Nat → Nat} (P : Pm n f) {i : Nat} (hi : i < n) : fre f i (f i) = les f i n := by
  unfold fre les
  rw [countP_cut _ (f i) n (Nat.le_of_lt (P.lt i hi)), ← P.map_range.countP_eq, List.countP_map]
  refine List.countP_congr fun j hj => ?_
  have hj := List.mem_range.1 hj
  show (decide (f j < f i) && (List.range i).all fun j' => f j' != f j) = true ↔ _
  rw [Bool.and_eq_true, Bool.and_eq_true, decide_eq_true_eq, decide_eq_true_eq, List.all_eq_true]
  constructor
  · rintro ⟨h1, h2⟩
    refine ⟨?_, h1⟩
    rcases Nat.lt_trichotomy i j with h | h | h
    · exact h
    · subst h; omega
    · have := h2 j (List.mem_range.2 h); simp at this
  · rintro ⟨h1, h2⟩
    refine ⟨h2, fun j' hj' => ?_⟩
    have hj' := List.mem_range.1 hj'
    simp only [bne_iff_ne, ne_eq]
    intro e
    have := P.inj j' j (by omega) hj e
    omega
/-- The sum till place k. -/
def rkS (n : Nat) (f : Nat → Nat) : Nat → Nat
  | 0 => 0
  | k + 1 => rkS n f k + les f k n * fac (n - 1 - k)
theorem les_fac_le {n : Nat} {f : Nat → Nat} (hn : n ≤ 12) (k : Nat) : les f k n * fac (n - 1 - k) ≤ 12 * 479001600 := by
  have h1 := les_le f k n
  have h2 := fac_le (show n - 1 - k ≤ 12 by omega)
  exact Nat.mul_le_mul (by omega) h2
theorem rkS_le {n : Nat} {f : Nat → Nat} (hn : n ≤ 12) : ∀ k, rkS n f k ≤ k * (12 * 479001600)
  | 0 => by simp [rkS]
  | k + 1 => by
    have h1 := rkS_le hn (f := f) k
    have h2 := les_fac_le (f := f) hn k
    rw [rkS, Nat.succ_mul]
    omega

end Go.Proofs.Ytjfjdidibglhaab
