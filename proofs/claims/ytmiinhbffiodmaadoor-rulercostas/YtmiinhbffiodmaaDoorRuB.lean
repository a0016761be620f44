/- Costas permutations; nothing of the program. -/
namespace Go.Proofs.YtmiinhbffiodmaaDoor

/-- As the document asks: for i below j and i below k. -/
def CosT (n : Nat) (f : Nat → Nat) : Prop := ∀ i j k, i < j → i < k → k + (j - i) < n → (f j : Int) - (f i : Int) ≠ (f (k + (j - i)) : Int) - (f k : Int)
/-- No two pairs have the same vector. -/
def Cos2 (n : Nat) (f : Nat → Nat) : Prop := ∀ i j k l, i < j → j < n → k < l → l < n → j - i = l - k → (f j : Int) - (f i : Int) = (f l : Int) - (f k : Int) → i = k ∧ j = l
theorem cos_two {n : Nat} {f : Nat → Nat} : CosT n f ↔ Cos2 n f := by
  constructor
  · intro h i j k l hij hj hkl hl hd e
    rcases Nat.lt_trichotomy i k with q | q | q
    · exact absurd (by rw [show k + (j - i) = l by omega]; exact e) (h i j k hij q (by omega))
    · exact ⟨q, by omega⟩
    · exact absurd (by rw [show i + (l - k) = j by omega]; exact e.symm) (h k l i hkl q (by omega))
  · intro h i j k hij hik hk e
    have := (h i j k (k + (j - i)) hij (by omega) (by omega) hk (by omega) e).1
    omega
def cosB (n : Nat) (f : Nat → Nat) : Bool := (List.range n).all fun i => (List.range n).all fun j => (List.range n).all fun k => !(decide (i < j) && (decide (i < k) && (decide (k + (j - i) < n) && decide (f j + f k = f (k + (j - i)) + f i))))
theorem cosB_iff {n : Nat} {f : Nat → Nat} : cosB n f = true ↔ CosT n f := by
  unfold cosB
  simp only [List.all_eq_true, List.mem_range, Bool.not_eq_true', Bool.and_eq_false_iff, decide_eq_false_iff_not]
  constructor
  · intro h i j k hij hik hk e
    rcases h i (by omega) j (by omega) k (by omega) with q | q | q | q
    · exact q hij
    · exact q hik
    · exact q hk
    · exact q (by omega)
  · intro h i hi j hj k hk
    by_cases h1 : i < j
    · by_cases h2 : i < k
      · by_cases h3 : k + (j - i) < n
        · refine .inr (.inr (.inr fun e => h i j k h1 h2 h3 (by omega)))
        · exact .inr (.inr (.inl h3))
      · exact .inr (.inl h2)
    · exact .inl h1
theorem cosB_two {n : Nat} {f : Nat → Nat} : cosB n f = true ↔ Cos2 n f := cosB_iff.trans cos_two
theorem cosB_congr {n : Nat} {f g : Nat → Nat} (h : ∀ i, i < n → f i = g i) : cosB n f = cosB n g := by
  rw [Bool.eq_iff_iff, cosB_two, cosB_two]
  constructor
  · intro q i j k l h1 h2 h3 h4 h5 e
    exact q i j k l h1 h2 h3 h4 h5 (by rw [h i (by omega), h j h2, h k (by omega), h l h4]; exact e)
  · intro q i j k l h1 h2 h3 h4 h5 e
    exact q i j k l h1 h2 h3 h4 h5 (by rw [← h i (by omega), ← h j h2, ← h k (by omega), ← h l h4]; exact e)
theorem cos_rev1 {n : Nat} {f : Nat → Nat} (h : Cos2 n f) : Cos2 n fun i => f (n - 1 - i) := fun i j k l hij hj hkl hl hd e => by
  have e' : (f (n - 1 - j) : Int) - (f (n - 1 - i) : Int) = (f (n - 1 - l) : Int) - (f (n - 1 - k) : Int) := e
  have := h (n - 1 - j) (n - 1 - i) (n - 1 - l) (n - 1 - k) (by omega) (by omega) (by omega) (by omega) (by omega) (by omega)
  omega
/-- What is read from behind. -/
theorem cos_rev {n : Nat} (f : Nat → Nat) : cosB n (fun i => f (n - 1 - i)) = cosB n f := by
  rw [Bool.eq_iff_iff, cosB_two, cosB_two]
  refine ⟨fun h => ?_, cos_rev1⟩
  have h2 := cosB_two.2 (cos_rev1 h)
  rw [cosB_congr (g := f) fun i hi => by show f (n - 1 - (n - 1 - i)) = f i; rw [show n - 1 - (n - 1 - i) = i by omega]] at h2
  exact cosB_two.1 h2
theorem cos_inv1 {n : Nat} {f g : Nat → Nat} (h1 : ∀ x, x < n → g x < n) (h2 : ∀ x, x < n → f (g x) = x) (h : Cos2 n f) : Cos2 n g := fun i j k l hij hj hkl hl hd e => by
  have a1 := h1 i (by omega)
  have a2 := h1 j hj
  have a3 := h1 k (by omega)
  have a4 := h1 l hl
  have b1 := h2 i (by omega)
  have b2 := h2 j hj
  have b3 := h2 k (by omega)
  have b4 := h2 l hl
  have hne : ∀ x y, x < n → y < n → g x = g y → x = y := fun x y hx hy e => by rw [← h2 x hx, ← h2 y hy, e]
  rcases Nat.lt_trichotomy (g i) (g j) with q | q | q
  · have := h (g i) (g j) (g k) (g l) q a2 (by omega) a4 (by omega) (by rw [b1, b2, b3, b4]; omega)
    exact ⟨hne i k (by omega) (by omega) this.1, hne j l hj hl this.2⟩
  · have := hne i j (by omega) hj q
    omega
  · have := h (g j) (g i) (g l) (g k) q a1 (by omega) a3 (by omega) (by rw [b1, b2, b3, b4]; omega)
    exact ⟨hne i k (by omega) (by omega) this.2, hne j l hj hl this.1⟩
/-- What is undone. -/
theorem cos_inv {n : Nat} {f g : Nat → Nat} (h1 : ∀ x, x < n → g x < n) (h2 : ∀ x, x < n → f (g x) = x) (h3 : ∀ x, x < n → f x < n) (h4 : ∀ x, x < n → g (f x) = x) : cosB n g = cosB n f := by
  rw [Bool.eq_iff_iff, cosB_two, cosB_two]
  exact ⟨cos_inv1 h3 h4, cos_inv1 h1 h2⟩
/-- Welch's. -/
def wlF (p r i : Nat) : Nat := r ^ i % p - 1
theorem welch_all : ∀ p : Fin 14, ∀ r : Fin 14, (p.val == 3 || p.val == 5 || p.val == 7 || p.val == 11 || p.val == 13) = true → 1 ≤ r.val → r.val < p.val → ((List.range (p.val - 1)).map (wlF p.val r.val)).Nodup → cosB (p.val - 1) (wlF p.val r.val) = true := by decide +kernel

end Go.Proofs.YtmiinhbffiodmaaDoor
