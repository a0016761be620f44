/- Digits of a number, the seed of one 1, taps of the longest period: plain words; nothing of the program. -/
import Derived.Test.YtcjkcgfohmhbcabDoorRPer
namespace Go.Proofs.YtcjkcgfohmhbcabDoor.Rc

def dgF (n p j : Nat) : Int := ((n / p ^ j % p : Nat) : Int)
def dgL (n p k : Nat) : List Int := (List.range k).map (dgF n p)
theorem dgL_len (n p k : Nat) : (dgL n p k).length = k := by simp [dgL]
theorem dgL_bel {n p k : Nat} (hp : 2 ≤ p) : belB (p : Int) (dgL n p k) = true := by
  rw [belB_iff]
  intro j hj
  rw [dgL_len] at hj
  have h : (dgL n p k).getD j 0 = dgF n p j := by simp [dgL, hj]
  rw [h]
  unfold dgF
  have := Nat.mod_lt (n / p ^ j) (show 0 < p by omega)
  omega
/-- k - 1 times 0, and 1. -/
def seedL (k : Nat) : List Int := (List.range k).map fun j => if j = k - 1 then 1 else 0
theorem seedL_len (k : Nat) : (seedL k).length = k := by simp [seedL]
theorem seedL_at {k j : Nat} (h : j < k) : (seedL k).getD j 0 = if j = k - 1 then 1 else 0 := by simp [seedL, h]
theorem seedL_bel {k p : Nat} (hp : 2 ≤ p) : belB (p : Int) (seedL k) = true := by
  rw [belB_iff]
  intro j hj
  rw [seedL_len] at hj
  rw [seedL_at hj]
  split <;> omega
theorem numP_zero {p : Int} {f : Nat → Int} {k : Nat} (h : ∀ j, j < k → f j = 0) : numP p f k = 0 := by
  induction k with
  | zero => rfl
  | succ k ih => rw [numP, ih (fun j hj => h j (by omega)), h k (by omega)]; simp
theorem numL_seed (p : Int) {k : Nat} (hk : 1 ≤ k) (f : Nat → Int) (hf : ∀ j, j < k → f j = (seedL k).getD j 0) : numP p f k = p ^ (k - 1) := by
  obtain ⟨i, rfl⟩ : ∃ i, k = i + 1 := ⟨k - 1, by omega⟩
  rw [numP, numP_zero, hf i (by omega), seedL_at (by omega), if_pos (by omega)]
  · simp
  · intro j hj
    rw [hf j (by omega), seedL_at (by omega), if_neg (by omega)]
theorem win_seed (p : Int) (taps : List Int) {k : Nat} (hk : 1 ≤ k) (hl : taps.length = k) : winN p taps (seedL k) 0 = p ^ (k - 1) := by
  unfold winN
  rw [hl]
  exact numL_seed p hk _ (fun j hj => by rw [Nat.zero_add, rowN_seed (by rw [seedL_len]; exact hj)])
theorem numP_nought {p : Int} {f : Nat → Int} (hp : 2 ≤ p) (h : digs p f) {k : Nat} (h0 : numP p f k = 0) : ∀ j, j < k → f j = 0 :=
  numP_inj hp k h (g := fun _ => 0) (fun _ => ⟨Int.le_refl _, by show (0 : Int) < p; omega⟩) (by rw [h0, numP_zero (fun _ _ => rfl)])
/-- The window of noughts stays. -/
theorem win_stays {p : Int} {taps seed : List Int} (hp : 2 ≤ p) (hs : belB p seed = true) (hk : 1 ≤ taps.length) (hl : seed.length = taps.length) {i : Nat} (h : winN p taps seed i = 0) : winN p taps seed (i + 1) = 0 := by
  have h0 := numP_nought hp (row_digs (taps := taps) hp hs i) h
  rw [← winN_step hp hs hk, h, winN_next hl]
  have e : sumTo (fun j => taps.getD j 0 * rowN p taps seed (i + (taps.length - 1 - j))) taps.length = 0 := by
    have : ∀ n, n ≤ taps.length → sumTo (fun j => taps.getD j 0 * rowN p taps seed (i + (taps.length - 1 - j))) n = 0 := by
      intro n
      induction n with
      | zero => intro _; rfl
      | succ n ih =>
        intro hn
        rw [sumTo, ih (by omega), h0 (taps.length - 1 - n) (by omega)]
        simp
    exact this _ (Nat.le_refl _)
  rw [e]
  simp
theorem full_pos {p : Int} {taps : List Int} {k Q : Nat} (hp : 2 ≤ p) (hk : 1 ≤ k) (hl : taps.length = k) (hper : PerIs (winN p taps (seedL k)) 0 (Q - 1)) (hs : belB p (seedL k) = true) : ∀ i, i < Q - 1 → winN p taps (seedL k) i ≠ 0 := by
  intro i hi h
  obtain ⟨h1, h2, h3⟩ := hper
  have h4 := win_stays hp hs (by omega) (by rw [seedL_len]; exact hl.symm) h
  by_cases e : i + 1 = Q - 1
  · rw [Nat.zero_add, ← e, h4, win_seed p taps hk hl] at h2
    have : 0 < p ^ (k - 1) := Int.pow_pos (by omega)
    omega
  · exact h3 i (i + 1) (by omega) (by omega) (by rw [h, h4])

/-- The n-th taps have the longest period. -/
def fullAt (P k Q n : Nat) : Prop := PerIs (winN P (dgL n P k) (seedL k)) 0 (Q - 1)
def FullIs (P k Q : Nat) (s : List Int) (z : Int) : Prop :=
  (∃ n, n < Q ∧ fullAt P k Q n ∧ (∀ m, m < n → ¬ fullAt P k Q m) ∧ s = dgL n P k ∧ z = 0) ∨ ((∀ m, m < Q → ¬ fullAt P k Q m) ∧ s = [] ∧ z = 4)
theorem FullIs.one {P k Q : Nat} {s s' : List Int} {z z' : Int} (h : FullIs P k Q s z) (h' : FullIs P k Q s' z') : s = s' ∧ z = z' := by
  rcases h with ⟨n, h1, h2, h3, rfl, rfl⟩ | ⟨h1, rfl, rfl⟩
  · rcases h' with ⟨n', g1, g2, g3, rfl, rfl⟩ | ⟨g1, _, _⟩
    · have : n = n' := by
        by_cases hlt : n < n'
        · exact absurd h2 (g3 n hlt)
        · by_cases hgt : n' < n
          · exact absurd g2 (h3 n' hgt)
          · omega
      subst this
      exact ⟨rfl, rfl⟩
    · exact absurd h2 (g1 n h1)
  · rcases h' with ⟨n', g1, g2, g3, rfl, rfl⟩ | ⟨g1, rfl, rfl⟩
    · exact absurd g2 (h1 n' g1)
    · exact ⟨rfl, rfl⟩

end Go.Proofs.YtcjkcgfohmhbcabDoor.Rc
