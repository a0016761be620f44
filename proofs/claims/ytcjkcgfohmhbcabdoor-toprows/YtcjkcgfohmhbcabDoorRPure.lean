/- Plain functions on rows of numbers that taps make; nothing of the program. -/
namespace Go.Proofs.YtcjkcgfohmhbcabDoor.Rc

/-- One number of a row changed. -/
def upd (f : Nat → Int) (i : Nat) (v : Int) : Nat → Int := fun j => if j = i then v else f j

/-! ### Sums -/
def sumTo (f : Nat → Int) : Nat → Int
  | 0 => 0
  | n + 1 => sumTo f n + f n
theorem sumTo_congr {f g : Nat → Int} {n : Nat} (h : ∀ j, j < n → f j = g j) : sumTo f n = sumTo g n := by
  induction n with
  | zero => rfl
  | succ n ih => simp only [sumTo]; rw [ih (fun j hj => h j (by omega)), h n (by omega)]
theorem sumTo_shift (f : Nat → Int) (n : Nat) : sumTo f (n + 1) = f 0 + sumTo (fun j => f (j + 1)) n := by
  induction n with
  | zero => simp [sumTo]
  | succ n ih => rw [sumTo, ih]; simp only [sumTo]; omega
theorem sumTo_rev (f : Nat → Int) (n : Nat) : sumTo (fun j => f (n - 1 - j)) n = sumTo f n := by
  induction n with
  | zero => rfl
  | succ n ih =>
    rw [sumTo_shift, sumTo, ← ih]
    rw [show n + 1 - 1 - 0 = n by omega]
    rw [sumTo_congr (g := fun j => f (n - 1 - j)) (fun j _ => by rw [show n + 1 - 1 - (j + 1) = n - 1 - j by omega])]
    omega
theorem sumTo_bd {f : Nat → Int} {n : Nat} {B : Int} (h : ∀ j, j < n → 0 ≤ f j ∧ f j ≤ B) : 0 ≤ sumTo f n ∧ sumTo f n ≤ n * B := by
  induction n with
  | zero => simp [sumTo]
  | succ n ih =>
    have h1 := ih (fun j hj => h j (by omega))
    have h2 := h n (by omega)
    simp only [sumTo]
    rw [show ((n + 1 : Nat) : Int) * B = n * B + B by rw [Int.natCast_add, Int.add_mul]; simp]
    omega
theorem sumTo_add (f g : Nat → Int) (n : Nat) : sumTo (fun j => f j + g j) n = sumTo f n + sumTo g n := by
  induction n with
  | zero => rfl
  | succ n ih => simp only [sumTo]; rw [ih]; omega
theorem sumTo_mul (c : Int) (f : Nat → Int) (n : Nat) : sumTo (fun j => c * f j) n = c * sumTo f n := by
  induction n with
  | zero => simp [sumTo]
  | succ n ih => simp only [sumTo]; rw [ih, Int.mul_add]
/-! ### What may be wrong -/
def smB (p : Int) : Bool := p == 2 || p == 3 || p == 5 || p == 7
theorem smB_iff {p : Int} : smB p = true ↔ p = 2 ∨ p = 3 ∨ p = 5 ∨ p = 7 := by
  simp only [smB, Bool.or_eq_true, beq_iff_eq, or_assoc]
theorem smB_bd {p : Int} (h : smB p = true) : 2 ≤ p ∧ p ≤ 7 := by
  have := smB_iff.1 h; omega
def belB (p : Int) (l : List Int) : Bool := l.all fun x => decide (0 ≤ x) && decide (x < p)
theorem belB_iff {p : Int} {l : List Int} : belB p l = true ↔ ∀ j, j < l.length → 0 ≤ l.getD j 0 ∧ l.getD j 0 < p := by
  unfold belB
  rw [List.all_eq_true]
  constructor
  · intro h j hj
    have := h (l.getD j 0) (by simp [hj])
    simpa using this
  · intro h x hx
    obtain ⟨j, hj, rfl⟩ := List.mem_iff_getElem.1 hx
    have := h j hj
    simpa [hj] using this
def tapsF (p : Int) (taps : List Int) : Int := if smB p = false then 1 else if taps.length = 0 ∨ 8 < taps.length then 2 else if belB p taps = false then 1 else 0
def runF (p : Int) (taps seed : List Int) : Int := if tapsF p taps ≠ 0 then tapsF p taps else if seed.length ≠ taps.length then 2 else if belB p seed = false then 1 else 0
theorem tapsF_ok {p : Int} {taps : List Int} (h : tapsF p taps = 0) : smB p = true ∧ 1 ≤ taps.length ∧ taps.length ≤ 8 ∧ belB p taps = true := by
  unfold tapsF at h
  by_cases h1 : smB p = false
  · rw [if_pos h1] at h; omega
  · rw [if_neg h1] at h
    by_cases h2 : taps.length = 0 ∨ 8 < taps.length
    · rw [if_pos h2] at h; omega
    · rw [if_neg h2] at h
      by_cases h3 : belB p taps = false
      · rw [if_pos h3] at h; omega
      · exact ⟨by simpa using h1, by omega, by omega, by simpa using h3⟩
theorem tapsF_mk {p : Int} {taps : List Int} (h1 : smB p = true) (h2 : 1 ≤ taps.length) (h3 : taps.length ≤ 8) (h4 : belB p taps = true) : tapsF p taps = 0 := by
  unfold tapsF
  rw [if_neg (by simp [h1]), if_neg (by omega), if_neg (by simp [h4])]
theorem runF_ok {p : Int} {taps seed : List Int} (h : runF p taps seed = 0) : tapsF p taps = 0 ∧ seed.length = taps.length ∧ belB p seed = true := by
  unfold runF at h
  by_cases h1 : tapsF p taps ≠ 0
  · rw [if_pos h1] at h; exact absurd h h1
  · rw [if_neg h1] at h
    by_cases h2 : seed.length ≠ taps.length
    · rw [if_pos h2] at h; omega
    · rw [if_neg h2] at h
      by_cases h3 : belB p seed = false
      · rw [if_pos h3] at h; omega
      · exact ⟨by omega, by omega, by simpa using h3⟩
theorem runF_mk {p : Int} {taps seed : List Int} (h1 : tapsF p taps = 0) (h2 : seed.length = taps.length) (h3 : belB p seed = true) : runF p taps seed = 0 := by
  unfold runF
  rw [if_neg (by omega), if_neg (by omega), if_neg (by simp [h3])]

/-! ### Rows -/
def nextN (p : Int) (taps seed l : List Int) : Int :=
  if l.length < seed.length then seed.getD l.length 0 else sumTo (fun j => taps.getD j 0 * l.getD (l.length - 1 - j) 0) taps.length % p
def rowL (p : Int) (taps seed : List Int) : Nat → List Int
  | 0 => []
  | n + 1 => rowL p taps seed n ++ [nextN p taps seed (rowL p taps seed n)]
def rowN (p : Int) (taps seed : List Int) (i : Nat) : Int := (rowL p taps seed (i + 1)).getD i 0
@[simp] theorem rowL_len (p : Int) (taps seed : List Int) (n : Nat) : (rowL p taps seed n).length = n := by
  induction n with
  | zero => rfl
  | succ n ih => simp [rowL, ih]
theorem rowN_next (p : Int) (taps seed : List Int) (i : Nat) : rowN p taps seed i = nextN p taps seed (rowL p taps seed i) := by
  unfold rowN
  rw [rowL, List.getD_eq_getElem?_getD, List.getElem?_append_right (by simp)]
  simp
theorem rowL_succ (p : Int) (taps seed : List Int) (n : Nat) : rowL p taps seed (n + 1) = rowL p taps seed n ++ [rowN p taps seed n] := by
  rw [rowN_next]; rfl
theorem rowL_at (p : Int) (taps seed : List Int) {i n : Nat} (h : i < n) : (rowL p taps seed n).getD i 0 = rowN p taps seed i := by
  induction n with
  | zero => omega
  | succ n ih =>
    by_cases e : i = n
    · subst e; rfl
    · rw [rowL_succ, List.getD_eq_getElem?_getD, List.getElem?_append_left (by simp; omega), ← List.getD_eq_getElem?_getD]
      exact ih (by omega)
theorem rowN_seed {p : Int} {taps seed : List Int} {i : Nat} (h : i < seed.length) : rowN p taps seed i = seed.getD i 0 := by
  rw [rowN_next, nextN, if_pos (by simpa using h)]; simp
theorem rowN_on {p : Int} {taps seed : List Int} {i : Nat} (h : seed.length ≤ i) (hk : taps.length ≤ i) :
    rowN p taps seed i = sumTo (fun j => taps.getD j 0 * rowN p taps seed (i - 1 - j)) taps.length % p := by
  rw [rowN_next, nextN, if_neg (by simpa using h)]
  congr 1
  apply sumTo_congr
  intro j hj
  rw [rowL_len, rowL_at _ _ _ (by omega)]
theorem rowN_bd {p : Int} {taps seed : List Int} (hp : 0 < p) (hs : belB p seed = true) (i : Nat) : 0 ≤ rowN p taps seed i ∧ rowN p taps seed i < p := by
  rw [rowN_next, nextN]
  by_cases h : (rowL p taps seed i).length < seed.length
  · rw [if_pos h]; exact belB_iff.1 hs _ h
  · rw [if_neg h]; exact ⟨Int.emod_nonneg _ (by omega), Int.emod_lt_of_pos _ hp⟩

/-! ### Windows as numbers -/
def numP (p : Int) (f : Nat → Int) : Nat → Int
  | 0 => 0
  | k + 1 => numP p f k + f k * p ^ k
theorem numP_congr {p : Int} {f g : Nat → Int} {k : Nat} (h : ∀ j, j < k → f j = g j) : numP p f k = numP p g k := by
  induction k with
  | zero => rfl
  | succ k ih => simp only [numP]; rw [ih (fun j hj => h j (by omega)), h k (by omega)]
theorem numP_front (p : Int) (f : Nat → Int) (k : Nat) : numP p f (k + 1) = f 0 + p * numP p (fun j => f (j + 1)) k := by
  induction k with
  | zero => simp [numP]
  | succ k ih =>
    rw [numP, ih]
    simp only [numP]
    rw [Int.mul_add, Int.pow_succ]
    have e : p * (f (k + 1) * p ^ k) = f (k + 1) * (p ^ k * p) := by rw [Int.mul_left_comm, Int.mul_comm p]
    omega
def digs (p : Int) (f : Nat → Int) : Prop := ∀ j, 0 ≤ f j ∧ f j < p
theorem digs.shift {p : Int} {f : Nat → Int} (h : digs p f) (t : Nat) : digs p (fun j => f (t + j)) := fun j => h (t + j)
theorem digs.succ {p : Int} {f : Nat → Int} (h : digs p f) : digs p (fun j => f (j + 1)) := fun j => h (j + 1)
theorem numP_bd {p : Int} {f : Nat → Int} (hp : 2 ≤ p) (h : digs p f) (k : Nat) : 0 ≤ numP p f k ∧ numP p f k < p ^ k := by
  induction k with
  | zero => simp [numP]
  | succ k ih =>
    have h1 := h k
    have hq : 0 < p ^ k := Int.pow_pos (by omega)
    simp only [numP]
    rw [Int.pow_succ]
    have h2 : 0 ≤ f k * p ^ k := Int.mul_nonneg h1.1 (by omega)
    have h3 : f k * p ^ k ≤ (p - 1) * p ^ k := Int.mul_le_mul_of_nonneg_right (by omega) (by omega)
    rw [Int.sub_mul, Int.one_mul, Int.mul_comm p] at h3
    omega
theorem numP_div {p : Int} {f : Nat → Int} (hp : 2 ≤ p) (h : digs p f) (k : Nat) : numP p f (k + 1) / p = numP p (fun j => f (j + 1)) k := by
  rw [numP_front, Int.add_mul_ediv_left _ _ (by omega), Int.ediv_eq_zero_of_lt (h 0).1 (h 0).2, Int.zero_add]
theorem numP_mod {p : Int} {f : Nat → Int} (h : digs p f) (k : Nat) : numP p f (k + 1) % p = f 0 := by
  rw [numP_front, Int.add_mul_emod_self_left, Int.emod_eq_of_lt (h 0).1 (h 0).2]
theorem numP_inj {p : Int} (hp : 2 ≤ p) (k : Nat) : ∀ {f g : Nat → Int}, digs p f → digs p g → numP p f k = numP p g k → ∀ j, j < k → f j = g j := by
  induction k with
  | zero => intro f g _ _ _ j hj; omega
  | succ k ih =>
    intro f g hf hg e j hj
    cases j with
    | zero => rw [← numP_mod hf k, ← numP_mod hg k, e]
    | succ j =>
      exact ih hf.succ hg.succ (by rw [← numP_div hp hf, ← numP_div hp hg, e]) j (by omega)
/-- The window of k numbers that begins at place i. -/
def winN (p : Int) (taps seed : List Int) (i : Nat) : Int := numP p (fun j => rowN p taps seed (i + j)) taps.length
theorem row_digs {p : Int} {taps seed : List Int} (hp : 2 ≤ p) (hs : belB p seed = true) (i : Nat) : digs p (fun j => rowN p taps seed (i + j)) := fun j => rowN_bd (by omega) hs (i + j)
theorem winN_mod {p : Int} {taps seed : List Int} (hp : 2 ≤ p) (hs : belB p seed = true) (hk : 1 ≤ taps.length) (i : Nat) : winN p taps seed i % p = rowN p taps seed i := by
  unfold winN
  obtain ⟨k, hk'⟩ : ∃ k, taps.length = k + 1 := ⟨taps.length - 1, by omega⟩
  rw [hk', numP_mod (row_digs hp hs i)]; rfl
theorem winN_step {p : Int} {taps seed : List Int} (hp : 2 ≤ p) (hs : belB p seed = true) (hk : 1 ≤ taps.length) (i : Nat) :
    winN p taps seed i / p + rowN p taps seed (i + taps.length) * p ^ (taps.length - 1) = winN p taps seed (i + 1) := by
  unfold winN
  obtain ⟨k, hk'⟩ : ∃ k, taps.length = k + 1 := ⟨taps.length - 1, by omega⟩
  rw [hk', numP_div hp (row_digs hp hs i), Nat.add_sub_cancel]
  rw [numP, numP_congr (g := fun j => rowN p taps seed (i + 1 + j)) (fun j _ => by rw [show i + (j + 1) = i + 1 + j by omega])]
  rw [show i + 1 + k = i + (k + 1) by omega]
theorem winN_next {p : Int} {taps seed : List Int} (hl : seed.length = taps.length) (i : Nat) :
    rowN p taps seed (i + taps.length) = sumTo (fun j => taps.getD j 0 * rowN p taps seed (i + (taps.length - 1 - j))) taps.length % p := by
  rw [rowN_on (by omega) (by omega)]
  congr 1
  apply sumTo_congr
  intro j hj
  rw [show i + taps.length - 1 - j = i + (taps.length - 1 - j) by omega]
theorem pow_bd {p : Int} {k : Nat} (hp : 2 ≤ p) (hp' : p ≤ 7) (hk : k ≤ 8) : 1 ≤ p ^ k ∧ p ^ k ≤ 5764801 := by
  constructor
  · have : 0 < p ^ k := Int.pow_pos (by omega)
    omega
  · have h1 : ∀ n : Nat, 0 ≤ p ^ n ∧ p ^ n ≤ 7 ^ n := by
      intro n
      induction n with
      | zero => simp
      | succ n ih =>
        rw [Int.pow_succ, Int.pow_succ]
        exact ⟨Int.mul_nonneg ih.1 (by omega), Int.mul_le_mul ih.2 hp' (by omega) (by exact Int.le_trans ih.1 ih.2)⟩
    have h2 : (7 : Int) ^ k ≤ 7 ^ 8 := by
      have : ∀ d : Nat, (7 : Int) ^ k ≤ 7 ^ (k + d) := by
        intro d
        induction d with
        | zero => exact Int.le_refl _
        | succ d ih =>
          rw [← Nat.add_assoc, Int.pow_succ]
          have : 0 < (7 : Int) ^ (k + d) := Int.pow_pos (by omega)
          omega
      have := this (8 - k)
      rwa [show k + (8 - k) = 8 by omega] at this
    have := (h1 k).2
    have e : (7 : Int) ^ 8 = 5764801 := by decide
    omega
theorem winN_bd {p : Int} {taps seed : List Int} (hp : 2 ≤ p) (hs : belB p seed = true) (i : Nat) : 0 ≤ winN p taps seed i ∧ winN p taps seed i < p ^ taps.length := numP_bd hp (row_digs hp hs i) _

end Go.Proofs.YtcjkcgfohmhbcabDoor.Rc
