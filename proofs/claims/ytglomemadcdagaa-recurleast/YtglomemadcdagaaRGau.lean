/- Equations by Gauss, and that the shortest taps are the only ones where the row is long enough: plain words; nothing of the program. -/
import Derived.Test.YtglomemadcdagaaRBM
namespace Go.Proofs.Ytglomemadcdagaa

/-! ### The only taps -/
theorem inv_of {p x : Int} (hs : smB p = true) (h : ¬ p ∣ x) : ∃ e, p ∣ e * x - 1 := by
  have hp := smB_bd hs
  have h1 := Int.emod_nonneg x (show p ≠ 0 by omega)
  have h2 := Int.emod_lt_of_pos x (show 0 < p by omega)
  have h3 : x % p ≠ 0 := fun e => h (Int.dvd_of_emod_eq_zero e)
  have h4 := emod_dvd p x
  have key : ∃ e, p ∣ e * (x % p) - 1 := by
    obtain ⟨r, hr⟩ : ∃ r, r = x % p := ⟨_, rfl⟩
    rw [← hr] at h1 h2 h3 ⊢
    rcases smB_iff.1 hs with rfl | rfl | rfl | rfl
    · exact ⟨1, by omega⟩
    · have : r = 1 ∨ r = 2 := by omega
      rcases this with rfl | rfl
      · exact ⟨1, by omega⟩
      · exact ⟨2, by omega⟩
    · have : r = 1 ∨ r = 2 ∨ r = 3 ∨ r = 4 := by omega
      rcases this with rfl | rfl | rfl | rfl
      · exact ⟨1, by omega⟩
      · exact ⟨3, by omega⟩
      · exact ⟨2, by omega⟩
      · exact ⟨4, by omega⟩
    · have : r = 1 ∨ r = 2 ∨ r = 3 ∨ r = 4 ∨ r = 5 ∨ r = 6 := by omega
      rcases this with rfl | rfl | rfl | rfl | rfl | rfl
      · exact ⟨1, by omega⟩
      · exact ⟨4, by omega⟩
      · exact ⟨5, by omega⟩
      · exact ⟨2, by omega⟩
      · exact ⟨3, by omega⟩
      · exact ⟨6, by omega⟩
  obtain ⟨e, he⟩ := key
  refine ⟨e, ?_⟩
  have h5 := Int.dvd_mul_of_dvd_right (b := e) h4
  rw [Int.mul_sub] at h5
  have h6 := Int.dvd_sub he h5
  rwa [show e * (x % p) - 1 - (e * (x % p) - e * x) = e * x - 1 by omega] at h6
/-- Of a row that is twice as long as its shortest taps these are the only ones of their length. -/
theorem only_taps {p : Int} {f : Nat → Int} {N L : Nat} {T : List Int} (hs : smB p = true) (hL : T.length = L) (hT : Makes p T f N) (hmin : ∀ U, Makes p U f N → L ≤ U.length) (h2 : 2 * L ≤ N) (D : Nat → Int)
    (hD : ∀ n, L ≤ n → n < N → p ∣ sumTo (fun c => D c * f (n - 1 - c)) L) : ∀ c, c < L → p ∣ D c := by
  apply Classical.byContradiction
  intro hne
  -- the first that is not 0
  obtain ⟨j0, hj, hbad, hfirst⟩ : ∃ j, j < L ∧ ¬ p ∣ D j ∧ ∀ c, c < j → p ∣ D c := by
    have : ∀ n, n ≤ L → (∀ c, c < n → p ∣ D c) ∨ ∃ j, j < L ∧ ¬ p ∣ D j ∧ ∀ c, c < j → p ∣ D c := by
      intro n
      induction n with
      | zero => intro _; exact .inl (fun c hc => by omega)
      | succ n ih =>
        intro hn
        rcases ih (by omega) with h | h
        · by_cases hd : p ∣ D n
          · exact .inl (fun c hc => by by_cases e : c = n; subst e; exact hd; exact h c (by omega))
          · exact .inr ⟨n, by omega, hd, h⟩
        · exact .inr h
    rcases this L (Nat.le_refl _) with h | h
    · exact absurd h hne
    · exact h
  obtain ⟨e, he⟩ := inv_of hs hbad
  obtain ⟨U, hU⟩ : ∃ U : List Int, U = (List.range (L - 1 - j0)).map fun b => -(e * D (j0 + 1 + b)) := ⟨_, rfl⟩
  have hUl : U.length = L - 1 - j0 := by rw [hU]; simp
  have hUa : ∀ b, b < L - 1 - j0 → U.getD b 0 = -(e * D (j0 + 1 + b)) := fun b hb => by rw [hU]; simp [hb]
  have hmk : Makes p U f (N - 1 - j0) := by
    intro i h3 h4
    rw [hUl] at h3
    have h5 := hD (i + 1 + j0) (by omega) (by omega)
    -- the part ahead of j0, j0 itself, the part behind it
    have h6 : sumTo (fun c => D c * f (i + 1 + j0 - 1 - c)) L = sumTo (fun c => D c * f (i + 1 + j0 - 1 - c)) (j0 + 1) + sumTo (fun b => D (j0 + 1 + b) * f (i - 1 - b)) (L - 1 - j0) := by
      have hsplit : ∀ (F : Nat → Int) (a b : Nat), sumTo F (a + b) = sumTo F a + sumTo (fun c => F (a + c)) b := by
        intro F a b
        induction b with
        | zero => simp [sumTo]
        | succ b ih => rw [← Nat.add_assoc, sumTo, ih, sumTo]; omega
      have h7 := hsplit (fun c => D c * f (i + 1 + j0 - 1 - c)) (j0 + 1) (L - 1 - j0)
      rw [show j0 + 1 + (L - 1 - j0) = L by omega] at h7
      rw [h7]
      congr 1
      exact sumTo_congr (fun b _ => by rw [show i + 1 + j0 - 1 - (j0 + 1 + b) = i - 1 - b by omega])
    have h8 : p ∣ sumTo (fun c => D c * f (i + 1 + j0 - 1 - c)) j0 - sumTo (fun _ => 0) j0 := sumTo_dvd (fun c hc => by rw [Int.sub_zero]; exact Int.dvd_mul_of_dvd_left (hfirst c hc))
    rw [sumTo_zero (F := fun _ => 0) (fun _ _ => rfl), Int.sub_zero] at h8
    rw [h6, sumTo, show i + 1 + j0 - 1 - j0 = i by omega] at h5
    have h9 : dot U f i = -(e * sumTo (fun b => D (j0 + 1 + b) * f (i - 1 - b)) (L - 1 - j0)) := by
      unfold dot
      rw [hUl, ← sumTo_mul, ← Int.neg_one_mul, ← sumTo_mul]
      exact sumTo_congr (fun b hb => by rw [hUa b hb, Int.neg_one_mul, ← Int.mul_assoc, Int.neg_mul])
    rw [h9]
    generalize sumTo (fun b => D (j0 + 1 + b) * f (i - 1 - b)) (L - 1 - j0) = X at h5 ⊢
    generalize sumTo (fun c => D c * f (i + 1 + j0 - 1 - c)) j0 = Y at h5 h8
    have k1 := Int.dvd_mul_of_dvd_right (b := e) (Int.dvd_sub h5 h8)
    rw [show Y + D j0 * f i + X - Y = D j0 * f i + X by omega, Int.mul_add, ← Int.mul_assoc] at k1
    have k2 := Int.dvd_mul_of_dvd_left (c := f i) he
    rw [Int.sub_mul, Int.one_mul] at k2
    have k3 := Int.dvd_sub k1 k2
    rwa [show e * D j0 * f i + e * X - (e * D j0 * f i - f i) = f i - -(e * X) by omega] at k3
  -- where it slips first
  have hslip : ∀ d, N - 1 - j0 + d ≤ N → Makes p U f (N - 1 - j0 + d) := by
    intro d
    induction d with
    | zero => intro _; exact hmk
    | succ d ih =>
      intro hd
      have h3 := ih (by omega)
      apply Classical.byContradiction
      intro hno
      have hb : ¬ p ∣ f (N - 1 - j0 + d) - dot U f (N - 1 - j0 + d) := fun h => hno (h3.succ h)
      have h4 := massey h3 hb (hT.le (by omega))
      omega
  have h3 := hmin U (by have := hslip (1 + j0) (by omega); rwa [show N - 1 - j0 + (1 + j0) = N by omega] at this)
  omega

/-! ### Equations -/
/-- x solves R equations in m unknowns; what they come to stands in column m. -/
def Sol (p : Int) (A : Nat → Nat → Int) (R m : Nat) (x : Nat → Int) : Prop := ∀ i, i < R → p ∣ sumTo (fun c => A i c * x c) m - A i m
/-- One step: row k comes to place a, is made 1 at column c by e, and clears that column in all others. -/
def swapM (A : Nat → Nat → Int) (a k : Nat) : Nat → Nat → Int := fun i => if i = a then A k else if i = k then A a else A i
def scaleM (p : Int) (B : Nat → Nat → Int) (a : Nat) (e : Int) : Nat → Nat → Int := fun i j => if i = a then B a j * e % p else B i j
def clearM (p : Int) (B : Nat → Nat → Int) (a c : Nat) : Nat → Nat → Int := fun i j => if i = a then B a j else (B i j - B i c * B a j) % p
theorem sol_swap {p : Int} {A : Nat → Nat → Int} {R m a k : Nat} (ha : a < R) (hk : k < R) (x : Nat → Int) : Sol p (swapM A a k) R m x ↔ Sol p A R m x := by
  constructor
  · intro h i hi
    by_cases e1 : i = a
    · subst e1
      have h1 := h k hk
      unfold swapM at h1
      by_cases e2 : k = i
      · rw [if_pos e2] at h1; rwa [e2] at h1
      · rw [if_neg e2, if_pos rfl] at h1; exact h1
    · by_cases e2 : i = k
      · subst e2
        have h1 := h a ha
        unfold swapM at h1
        rw [if_pos rfl] at h1; exact h1
      · have h1 := h i hi
        unfold swapM at h1
        rw [if_neg e1, if_neg e2] at h1; exact h1
  · intro h i hi
    unfold swapM
    by_cases e1 : i = a
    · rw [if_pos e1]; exact h k hk
    · rw [if_neg e1]
      by_cases e2 : i = k
      · rw [if_pos e2]; exact h a ha
      · rw [if_neg e2]; exact h i hi
theorem sol_scale {p : Int} {B : Nat → Nat → Int} {R m a : Nat} {e d : Int} (hed : p ∣ d * e - 1) (x : Nat → Int) : Sol p (scaleM p B a e) R m x ↔ Sol p B R m x := by
  have key : p ∣ (sumTo (fun c => scaleM p B a e a c * x c) m - scaleM p B a e a m) - e * (sumTo (fun c => B a c * x c) m - B a m) := by
    unfold scaleM
    simp only [if_true]
    have h1 : p ∣ sumTo (fun c => B a c * e % p * x c) m - sumTo (fun c => e * (B a c * x c)) m := sumTo_dvd (fun c _ => by
      rw [show e * (B a c * x c) = B a c * e * x c by rw [← Int.mul_assoc, Int.mul_comm e], ← Int.sub_mul]
      exact Int.dvd_mul_of_dvd_left (emod_dvd p _))
    rw [sumTo_mul] at h1
    have h2 := emod_dvd p (B a m * e)
    rw [Int.mul_sub, Int.mul_comm e (B a m)]
    have h3 := Int.dvd_sub h1 h2
    generalize sumTo (fun c => B a c * e % p * x c) m = X at h3 ⊢
    generalize e * sumTo (fun c => B a c * x c) m = Y at h3 ⊢
    rwa [show X - Y - (B a m * e % p - B a m * e) = X - B a m * e % p - (Y - B a m * e) by omega] at h3
  constructor
  · intro h i hi
    by_cases ei : i = a
    · subst ei
      have h1 := Int.dvd_sub (h i hi) key
      generalize sumTo (fun c => B i c * x c) m - B i m = Z at h1 ⊢
      rw [show sumTo (fun c => scaleM p B i e i c * x c) m - scaleM p B i e i m - (sumTo (fun c => scaleM p B i e i c * x c) m - scaleM p B i e i m - e * Z) = e * Z by omega] at h1
      have h2 := Int.dvd_mul_of_dvd_right (b := d) h1
      have h3 := Int.dvd_mul_of_dvd_left (c := Z) hed
      rw [Int.sub_mul, Int.one_mul, Int.mul_assoc] at h3
      have h4 := Int.dvd_sub h2 h3
      rwa [show d * (e * Z) - (d * (e * Z) - Z) = Z by omega] at h4
    · have h1 := h i hi
      unfold scaleM at h1
      simp only [if_neg ei] at h1
      exact h1
  · intro h i hi
    by_cases ei : i = a
    · subst ei
      have h1 := Int.dvd_add key (Int.dvd_mul_of_dvd_right (b := e) (h i hi))
      generalize e * (sumTo (fun c => B i c * x c) m - B i m) = Z at h1
      rwa [show sumTo (fun c => scaleM p B i e i c * x c) m - scaleM p B i e i m - Z + Z = sumTo (fun c => scaleM p B i e i c * x c) m - scaleM p B i e i m by omega] at h1
    · unfold scaleM
      simp only [if_neg ei]
      exact h i hi
theorem sol_clear {p : Int} {B : Nat → Nat → Int} {R m a c : Nat} (ha : a < R) (x : Nat → Int) : Sol p (clearM p B a c) R m x ↔ Sol p B R m x := by
  have key : ∀ i, i ≠ a → p ∣ (sumTo (fun j => clearM p B a c i j * x j) m - clearM p B a c i m) - ((sumTo (fun j => B i j * x j) m - B i m) - B i c * (sumTo (fun j => B a j * x j) m - B a m)) := by
    intro i hi
    unfold clearM
    simp only [if_neg hi]
    have h1 : p ∣ sumTo (fun j => (B i j - B i c * B a j) % p * x j) m - sumTo (fun j => B i j * x j - B i c * (B a j * x j)) m := sumTo_dvd (fun j _ => by
      rw [show B i j * x j - B i c * (B a j * x j) = (B i j - B i c * B a j) * x j by rw [Int.sub_mul, Int.mul_assoc], ← Int.sub_mul]
      exact Int.dvd_mul_of_dvd_left (emod_dvd p _))
    rw [sumTo_sub, sumTo_mul] at h1
    have h2 := emod_dvd p (B i m - B i c * B a m)
    have h3 := Int.dvd_sub h1 h2
    rw [Int.mul_sub]
    generalize sumTo (fun j => (B i j - B i c * B a j) % p * x j) m = X at h3 ⊢
    generalize B i c * sumTo (fun j => B a j * x j) m = Y at h3 ⊢
    generalize sumTo (fun j => B i j * x j) m = Z at h3 ⊢
    rwa [show X - (Z - Y) - ((B i m - B i c * B a m) % p - (B i m - B i c * B a m)) = X - (B i m - B i c * B a m) % p - (Z - B i m - (Y - B i c * B a m)) by omega] at h3
  have same : ∀ h : p ∣ sumTo (fun j => B a j * x j) m - B a m, ∀ i, i ≠ a → (p ∣ sumTo (fun j => clearM p B a c i j * x j) m - clearM p B a c i m ↔ p ∣ sumTo (fun j => B i j * x j) m - B i m) := by
    intro h i hi
    have h1 := key i hi
    have h2 := Int.dvd_mul_of_dvd_right (b := B i c) h
    generalize sumTo (fun j => clearM p B a c i j * x j) m - clearM p B a c i m = X at h1 ⊢
    generalize sumTo (fun j => B i j * x j) m - B i m = Y at h1 ⊢
    generalize B i c * (sumTo (fun j => B a j * x j) m - B a m) = Z at h1 h2
    constructor
    · intro h3
      have h4 := Int.dvd_add (Int.dvd_sub h3 h1) h2
      rwa [show X - (X - (Y - Z)) + Z = Y by omega] at h4
    · intro h3
      have h4 := Int.dvd_sub (Int.dvd_add h1 h3) h2
      rwa [show X - (Y - Z) + Y - Z = X by omega] at h4
  have hrow : ∀ A : Nat → Nat → Int, (∀ j, A a j = B a j) → (p ∣ sumTo (fun j => A a j * x j) m - A a m ↔ p ∣ sumTo (fun j => B a j * x j) m - B a m) := by
    intro A hA
    rw [hA m, sumTo_congr (g := fun j => B a j * x j) (fun j _ => by rw [hA j])]
  have hca : ∀ j, clearM p B a c a j = B a j := fun j => by unfold clearM; rw [if_pos rfl]
  constructor
  · intro h i hi
    have h0 := (hrow (clearM p B a c) hca).1 (h a ha)
    by_cases ei : i = a
    · subst ei; exact h0
    · exact (same h0 i ei).1 (h i hi)
  · intro h i hi
    by_cases ei : i = a
    · subst ei; exact (hrow (clearM p B i c) hca).2 (h i hi)
    · exact (same (h a ha) i ei).2 (h i hi)

/-- What the columns ahead of c have come to: 'at' rows lead, each with 1 at its own column, where all others have 0; the rows behind have 0 there. -/
structure Gs (p : Int) (A0 A : Nat → Nat → Int) (R m c at' : Nat) (ld : Nat → Nat) : Prop where
  rng : ∀ i j, i < R → j ≤ m → 0 ≤ A i j ∧ A i j < p
  lea : at' ≤ c
  leR : at' ≤ R
  inc : ∀ i, i < at' → ld i < c
  inj : ∀ i j, i < j → j < at' → ld i < ld j
  unit : ∀ i r, i < at' → r < R → A r (ld i) = if r = i then 1 else 0
  zero : ∀ r c', at' ≤ r → r < R → c' < c → A r c' = 0
  sol : ∀ x, Sol p A0 R m x ↔ Sol p A R m x
theorem Gs.start {p : Int} {A : Nat → Nat → Int} {R m : Nat} (h : ∀ i j, i < R → j ≤ m → 0 ≤ A i j ∧ A i j < p) : Gs p A A R m 0 0 (fun _ => 0) :=
  ⟨h, Nat.le_refl _, Nat.zero_le _, fun i h => by omega, fun i j _ h => by omega, fun i r h _ => by omega, fun r c' _ _ h => by omega, fun _ => Iff.rfl⟩
theorem Gs.skip {p : Int} {A0 A : Nat → Nat → Int} {R m c at' : Nat} {ld : Nat → Nat} (G : Gs p A0 A R m c at' ld) (h : ∀ r, at' ≤ r → r < R → A r c = 0) : Gs p A0 A R m (c + 1) at' ld := by
  refine ⟨G.rng, by have := G.lea; omega, G.leR, fun i hi => by have := G.inc i hi; omega, G.inj, G.unit, fun r c' h1 h2 h3 => ?_, G.sol⟩
  by_cases e : c' = c
  · subst e; exact h r h1 h2
  · exact G.zero r c' h1 h2 (by omega)
theorem Gs.step {p : Int} {A0 A : Nat → Nat → Int} {R m c at' k : Nat} {e : Int} {ld : Nat → Nat} (hp : 2 ≤ p) (G : Gs p A0 A R m c at' ld) (hc : c < m) (hk1 : at' ≤ k) (hk : k < R) (he : A k c * e % p = 1) :
    Gs p A0 (clearM p (scaleM p (swapM A at' k) at' e) at' c) R m (c + 1) (at' + 1) (fun i => if i = at' then c else ld i) := by
  have haR : at' < R := by omega
  obtain ⟨B, hB⟩ : ∃ B, B = scaleM p (swapM A at' k) at' e := ⟨_, rfl⟩
  have hBa : ∀ j, B at' j = A k j * e % p := fun j => by rw [hB]; unfold scaleM swapM; rw [if_pos rfl, if_pos rfl]
  have hBi : ∀ i, i ≠ at' → ∀ j, B i j = if i = k then A at' j else A i j := fun i hi j => by
    rw [hB]; unfold scaleM swapM
    rw [if_neg hi, if_neg hi]
    by_cases e : i = k
    · rw [if_pos e, if_pos e]
    · rw [if_neg e, if_neg e]
  have hBr : ∀ i, i ≠ at' → i < R → ∀ j, j ≤ m → 0 ≤ B i j ∧ B i j < p := fun i hi hiR j hj => by
    rw [hBi i hi]
    split
    · exact G.rng at' j haR hj
    · exact G.rng i j hiR hj
  -- what stays where the leading row has 0
  have hst : ∀ i, i ≠ at' → i < R → ∀ j, j ≤ m → B at' j = 0 → clearM p B at' c i j = B i j := fun i hi hiR j hj h0 => by
    unfold clearM
    rw [if_neg hi, h0, Int.mul_zero, Int.sub_zero]
    exact Int.emod_eq_of_lt (hBr i hi hiR j hj).1 (hBr i hi hiR j hj).2
  have hca : ∀ j, clearM p B at' c at' j = B at' j := fun j => by unfold clearM; rw [if_pos rfl]
  have hold : ∀ i, i < at' → B at' (ld i) = 0 := fun i hi => by rw [hBa, G.unit i k hi hk, if_neg (by omega)]; simp
  have hleft : ∀ c', c' < c → B at' c' = 0 := fun c' hc' => by rw [hBa, G.zero k c' hk1 hk hc']; simp
  have hB1 : B at' c = 1 := by rw [hBa]; exact he
  rw [← hB]
  refine ⟨fun i j hi hj => ?_, by have := G.lea; omega, by omega, fun i hi => ?_, fun i j hij hj => ?_, fun i r hi hr => ?_, fun r c' h1 h2 h3 => ?_, fun x => ?_⟩
  · unfold clearM
    split
    · rw [hBa]; exact ⟨Int.emod_nonneg _ (by omega), Int.emod_lt_of_pos _ (by omega)⟩
    · exact ⟨Int.emod_nonneg _ (by omega), Int.emod_lt_of_pos _ (by omega)⟩
  · show (if i = at' then c else ld i) < c + 1
    split
    · omega
    · have := G.inc i (by omega); omega
  · show (if i = at' then c else ld i) < (if j = at' then c else ld j)
    rw [if_neg (by omega)]
    split
    · exact G.inc i (by omega)
    · exact G.inj i j hij (by omega)
  · show clearM p B at' c r (if i = at' then c else ld i) = if r = i then 1 else 0
    by_cases ei : i = at'
    · rw [if_pos ei]
      by_cases er : r = at'
      · rw [er, hca, hB1, if_pos ei.symm]
      · rw [if_neg (by omega)]
        unfold clearM
        rw [if_neg er, hB1, Int.mul_one, Int.sub_self]; simp
    · rw [if_neg ei]
      have hi' : i < at' := by omega
      have hlm : ld i ≤ m := by have := G.inc i hi'; omega
      by_cases er : r = at'
      · rw [er, hca, hold i hi', if_neg (fun e => ei e.symm)]
      · rw [hst r er hr _ hlm (hold i hi'), hBi r er]
        by_cases ek : r = k
        · rw [if_pos ek, G.unit i at' hi' haR, if_neg (fun e => ei e.symm), if_neg (by omega)]
        · rw [if_neg ek]; exact G.unit i r hi' hr
  · have er : r ≠ at' := by omega
    by_cases ec : c' = c
    · subst ec
      unfold clearM
      rw [if_neg er, hB1, Int.mul_one, Int.sub_self]; simp
    · have h4 : c' < c := by omega
      rw [hst r er h2 c' (by omega) (hleft c' h4), hBi r er]
      split
      · exact G.zero at' c' (Nat.le_refl _) haR h4
      · exact G.zero r c' (by omega) h2 h4
  · rw [G.sol x, sol_clear haR, hB, sol_scale (d := A k c) (by
      have h := emod_dvd p (A k c * e)
      rw [he] at h
      have h2 := Int.dvd_neg.2 h
      rwa [show -(1 - A k c * e) = A k c * e - 1 by omega] at h2), sol_swap haR hk]
theorem Gs.none {p : Int} {A0 A : Nat → Nat → Int} {R m at' r : Nat} {ld : Nat → Nat} (G : Gs p A0 A R m m at' ld) (h1 : at' ≤ r) (hr : r < R) (h0 : A r m ≠ 0) (x : Nat → Int) : ¬ Sol p A0 R m x := by
  intro h
  have h2 := (G.sol x).1 h r hr
  rw [sumTo_zero (fun c hc => by rw [G.zero r c h1 hr hc, Int.zero_mul])] at h2
  have h3 := G.rng r m hr (Nat.le_refl _)
  have h4 := Int.dvd_neg.2 h2
  rw [show -(0 - A r m) = A r m by omega] at h4
  have := Int.le_of_dvd (by omega) h4
  omega
theorem Gs.lead {p : Int} {A0 A : Nat → Nat → Int} {R m : Nat} {ld : Nat → Nat} (G : Gs p A0 A R m m m ld) : ∀ i, i < m → ld i = i := by
  have h1 : ∀ i, i < m → i ≤ ld i := by
    intro i
    induction i with
    | zero => intro _; exact Nat.zero_le _
    | succ i ih =>
      intro hi
      have := ih (by omega)
      have := G.inj i (i + 1) (by omega) hi
      omega
  have h2 : ∀ d i, i + d + 1 = m → ld i ≤ i := by
    intro d
    induction d with
    | zero => intro i e; have := G.inc i (by omega); omega
    | succ d ih =>
      intro i e
      have := ih (i + 1) (by omega)
      have := G.inj i (i + 1) (by omega) (by omega)
      omega
  intro i hi
  have := h1 i hi
  have := h2 (m - 1 - i) i (by omega)
  omega
theorem Gs.only {p : Int} {A0 A : Nat → Nat → Int} {R m : Nat} {ld : Nat → Nat} (G : Gs p A0 A R m m m ld) {x : Nat → Int} (h : Sol p A0 R m x) : ∀ i, i < m → p ∣ x i - A i m := by
  intro i hi
  have hiR : i < R := by have := G.leR; omega
  have h2 := (G.sol x).1 h i hiR
  rwa [sumTo_one (x i) hi (by rw [show A i i = 1 by have e := G.unit i i hi hiR; rw [G.lead i hi, if_pos rfl] at e; exact e, Int.one_mul]) (fun c hc hne => by
    have e := G.unit c i hc hiR
    rw [G.lead c hc, if_neg (fun e => hne e.symm)] at e
    rw [e, Int.zero_mul])] at h2
/-- Where fewer rows lead than there are unknowns, something can be added to each solution. -/
theorem Gs.free {p : Int} {A0 A : Nat → Nat → Int} {R m at' : Nat} {ld : Nat → Nat} (hp : 2 ≤ p) (G : Gs p A0 A R m m at' ld) (hlt : at' < m) :
    ∃ D : Nat → Int, (∃ c, c < m ∧ ¬ p ∣ D c) ∧ ∀ x, Sol p A0 R m x → Sol p A0 R m (fun c => x c + D c) := by
  -- a column that leads nowhere
  obtain ⟨c0, hc0, hfree⟩ : ∃ c0, c0 < m ∧ ∀ i, i < at' → ld i ≠ c0 := by
    apply Classical.byContradiction
    intro hno
    have hsub : List.range m ⊆ (List.range at').map ld := by
      intro c hc
      apply Classical.byContradiction
      intro h
      apply hno
      refine ⟨c, by simpa using hc, fun i hi e => h ?_⟩
      rw [List.mem_map]
      exact ⟨i, by simpa using hi, e⟩
    have := List.nodup_range.length_le_of_subset hsub
    simp at this
    omega
  obtain ⟨D, hD⟩ : ∃ D : Nat → Int, D = fun c => (if c = c0 then 1 else 0) - sumTo (fun i => if ld i = c then A i c0 else 0) at' := ⟨_, rfl⟩
  refine ⟨D, ⟨c0, hc0, ?_⟩, fun x hx => (G.sol _).2 fun i hi => ?_⟩
  · rw [hD]
    show ¬ p ∣ (if c0 = c0 then 1 else 0) - sumTo (fun i => if ld i = c0 then A i c0 else 0) at'
    rw [if_pos rfl, sumTo_zero (fun i hi => if_neg (hfree i hi)), Int.sub_zero]
    intro h
    have := Int.le_of_dvd (by decide) h
    omega
  · have h1 := (G.sol x).1 hx i hi
    have h2 : sumTo (fun c => A i c * D c) m = 0 := by
      rw [hD]
      rw [sumTo_congr (g := fun c => (if c = c0 then A i c0 else 0) - sumTo (fun j => if ld j = c then A i (ld j) * A j c0 else 0) at') (fun c _ => by
        show A i c * ((if c = c0 then 1 else 0) - sumTo (fun j => if ld j = c then A j c0 else 0) at') = _
        rw [Int.mul_sub, ← sumTo_mul]
        congr 1
        · split
          · rename_i e; rw [e, Int.mul_one]
          · rw [Int.mul_zero]
        · exact sumTo_congr (fun j _ => by
            split
            · rename_i e; rw [← e]
            · rw [Int.mul_zero]))]
      rw [sumTo_sub, sumTo_one (F := fun c => if c = c0 then A i c0 else 0) (A i c0) hc0 (if_pos rfl) (fun c _ hne => if_neg hne), sumTo_swap (fun c j => if ld j = c then A i (ld j) * A j c0 else 0)]
      rw [sumTo_congr (g := fun j => A i (ld j) * A j c0) (fun j hj => sumTo_one _ (G.inc j hj) (if_pos rfl) (fun c _ hne => if_neg (fun e => hne e.symm)))]
      by_cases hia : i < at'
      · rw [sumTo_one (A i c0) hia (by rw [G.unit i i hia hi, if_pos rfl, Int.one_mul]) (fun j hj hne => by rw [G.unit j i hj hi, if_neg (fun e => hne e.symm), Int.zero_mul])]
        omega
      · rw [sumTo_zero (fun j hj => by rw [G.unit j i hj hi, if_neg (by omega), Int.zero_mul]), G.zero i c0 (by omega) hi hc0]; rfl
    rw [sumTo_congr (g := fun c => A i c * x c + A i c * D c) (fun c _ => by rw [Int.mul_add]), sumTo_add, h2, Int.add_zero]
    exact h1

end Go.Proofs.Ytglomemadcdagaa
