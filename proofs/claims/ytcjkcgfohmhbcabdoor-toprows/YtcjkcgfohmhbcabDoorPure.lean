/- Plain functions on numbers and lists that the walks speak of; nothing of the program. -/
namespace Go.Proofs.YtcjkcgfohmhbcabDoor.Fd

/-- The small primes, as the program's table has them. -/
def primeTab : List Int := [2, 3, 5, 7, 11, 13, 17, 19, 23, 29, 31, 37, 41, 43, 47, 53, 59, 61]
def isPrimeB (n : Int) : Bool := primeTab.contains n
def primeAt (k : Nat) : Int := primeTab.getD k 0

/-- One number of a row changed. -/
def upd (f : Nat → Int) (i : Nat) (v : Int) : Nat → Int := fun j => if j = i then v else f j

theorem prime_mem (n : Int) (k : Nat) (h : k < 18) (e : primeAt k = n) : isPrimeB n = true := by
  subst e
  unfold primeAt isPrimeB
  rw [List.contains_iff_mem]
  have hl : k < primeTab.length := h
  rw [List.getD_eq_getElem?_getD, List.getElem?_eq_getElem hl]
  exact List.getElem_mem hl
theorem prime_not (n : Int) (h : ∀ j : Nat, j < 18 → primeAt j ≠ n) : isPrimeB n = false := by
  unfold isPrimeB
  rw [Bool.eq_false_iff, Ne, List.contains_iff_mem]
  intro hm
  obtain ⟨j, hj, e⟩ := List.mem_iff_getElem.1 hm
  exact h j hj (by unfold primeAt; rw [List.getD_eq_getElem?_getD, List.getElem?_eq_getElem hj]; exact e)

theorem prime_bd {n : Int} (h : isPrimeB n = true) : 2 ≤ n ∧ n ≤ 61 := by
  unfold isPrimeB at h
  rw [List.contains_iff_mem] at h
  simp [primeTab] at h
  omega

/-- The order of the field of that prime and degree, 0 where there is none. -/
def ordZ (p k : Int) : Int := if isPrimeB p = true ∧ 1 ≤ k ∧ k ≤ 6 ∧ p ^ k.toNat ≤ 64 then p ^ k.toNat else 0

theorem pow_mono_step (p : Int) (hp : 2 ≤ p) (i j : Nat) (h : i ≤ j) : 1 ≤ p ^ i ∧ p ^ i ≤ p ^ j := by
  induction j with
  | zero => obtain rfl : i = 0 := by omega
            simp
  | succ j ih =>
    by_cases e : i = j + 1
    · subst e
      refine ⟨?_, Int.le_refl _⟩
      exact Int.pow_pos (by omega)
    · obtain ⟨a, b⟩ := ih (by omega)
      refine ⟨a, Int.le_trans b ?_⟩
      rw [Int.pow_succ]
      have : 1 ≤ p ^ j := by omega
      have h2 : p ^ j * 2 ≤ p ^ j * p := Int.mul_le_mul_of_nonneg_left hp (by omega)
      omega

theorem pow_two_le (p : Int) (hp : 2 ≤ p) (i : Nat) (h : 7 ≤ i) : 64 < p ^ i := by
  have h1 : (2 : Int) ^ 7 ≤ p ^ 7 := by
    have e : ∀ n : Nat, (2 : Int) ^ n ≤ p ^ n := by
      intro n
      induction n with
      | zero => simp
      | succ n ih =>
        rw [Int.pow_succ, Int.pow_succ]
        have h0 : (0 : Int) ≤ 2 ^ n := Int.le_of_lt (Int.pow_pos (by decide))
        exact Int.mul_le_mul ih hp (by decide) (Int.le_trans h0 ih)
    exact e 7
  have h2 := (pow_mono_step p hp 7 i h).2
  have : (2 : Int) ^ 7 = 128 := by decide
  omega

theorem ord_no {p k : Int} (h : isPrimeB p = false) : ordZ p k = 0 := by simp [ordZ, h]
theorem ord_lo {p k : Int} (h : k < 1) : ordZ p k = 0 := by unfold ordZ; rw [if_neg (by omega)]
theorem ord_hi {p k : Int} (h : 6 < k) : ordZ p k = 0 := by unfold ordZ; rw [if_neg (by omega)]
theorem ord_over {p k : Int} (hp : 2 ≤ p) (i : Nat) (hi : (i : Int) ≤ k) (h : 64 < p ^ i) : ordZ p k = 0 := by
  unfold ordZ
  rw [if_neg]
  rintro ⟨_, _, _, hle⟩
  have := (pow_mono_step p hp i k.toNat (by omega)).2
  omega
theorem ord_eq {p k : Int} (hp : isPrimeB p = true) (h1 : 1 ≤ k) (h : p ^ k.toNat ≤ 64) : ordZ p k = p ^ k.toNat := by
  unfold ordZ
  have hp2 := (prime_bd hp).1
  have : k ≤ 6 := by
    apply Classical.byContradiction
    intro hk
    have := pow_two_le p hp2 k.toNat (by omega)
    omega
  rw [if_pos ⟨hp, h1, this, h⟩]
/-- The digits of a number. -/
def digF (n p : Nat) : Nat → Int := fun i => ((n / p ^ i % p : Nat) : Int)
/-- The first i digits. -/
def digTo (n p i : Nat) : Nat → Int := fun j => if j < i then digF n p j else 0
theorem digTo_succ (n p i : Nat) (j : Nat) : upd (digTo n p i) i (digF n p i) j = digTo n p (i + 1) j := by
  unfold upd digTo
  by_cases e : j = i
  · subst e; simp
  · rw [if_neg e]
    by_cases h : j < i
    · rw [if_pos h, if_pos (by omega)]
    · rw [if_neg h, if_neg (by omega)]
theorem digTo_full (n p i : Nat) (h : n / p ^ i = 0) (j : Nat) : digTo n p i j = digF n p j := by
  unfold digTo
  by_cases e : j < i
  · rw [if_pos e]
  · rw [if_neg e]
    unfold digF
    have : n / p ^ j = 0 := by
      have e2 : p ^ j = p ^ i * p ^ (j - i) := by rw [← Nat.pow_add]; congr 1; omega
      rw [e2, ← Nat.div_div_eq_div_mul, h]
      simp
    rw [this]; simp
theorem div_small (n p i : Nat) (hn : n < 2048) (hp : 2 ≤ p) (h : 0 < n / p ^ i) : i ≤ 10 := by
  apply Classical.byContradiction
  intro hi
  have h1 : 2 ^ i ≤ p ^ i := Nat.pow_le_pow_left hp i
  have h2 : 2 ^ 11 ≤ 2 ^ i := Nat.pow_le_pow_right (by decide) (by omega)
  have h3 : n / p ^ i = 0 := Nat.div_eq_of_lt (by omega)
  omega
theorem div_succ (n p i : Nat) : n / p ^ (i + 1) = n / p ^ i / p := by rw [Nat.pow_succ, Nat.div_div_eq_div_mul]

/-- One step of dividing: the number at i is taken away, m times, from what stands d places below it on. -/
def rd (f m : Nat → Int) (d : Nat) (p : Int) (i : Nat) : Nat → Int := fun t => if i - d ≤ t ∧ t ≤ i then (f t - f i * m (t - (i - d))) % p else f t
/-- The same, where only the first j numbers are done. -/
def rdTo (f m : Nat → Int) (d : Nat) (p : Int) (i j : Nat) : Nat → Int := fun t => if i - d ≤ t ∧ t < i - d + j then (f t - f i * m (t - (i - d))) % p else f t
/-- Steps at d + n - 1, d + n - 2, .., d. -/
def redN (m : Nat → Int) (d : Nat) (p : Int) : Nat → (Nat → Int) → (Nat → Int)
  | 0, f => f
  | n + 1, f => redN m d p n (rd f m d p (d + n))
def inP (p : Int) (f : Nat → Int) : Prop := ∀ t, 0 ≤ f t ∧ f t < p
theorem rd_in {f m : Nat → Int} {d : Nat} {p : Int} {i : Nat} (hp : 0 < p) (h : inP p f) : inP p (rd f m d p i) := by
  intro t
  unfold rd
  split
  · exact ⟨Int.emod_nonneg _ (by omega), Int.emod_lt_of_pos _ hp⟩
  · exact h t
theorem redN_in {m : Nat → Int} {d : Nat} {p : Int} (hp : 0 < p) : ∀ (n : Nat) (f : Nat → Int), inP p f → inP p (redN m d p n f)
  | 0, _, h => h
  | n + 1, _, h => redN_in hp n _ (rd_in hp h)
theorem rdTo_zero (f m : Nat → Int) (d : Nat) (p : Int) (i t : Nat) : rdTo f m d p i 0 t = f t := by
  unfold rdTo; rw [if_neg (by omega)]
theorem rdTo_full (f m : Nat → Int) (d : Nat) (p : Int) (i : Nat) (hi : d ≤ i) (t : Nat) : rdTo f m d p i (d + 1) t = rd f m d p i t := by
  unfold rdTo rd
  by_cases h : i - d ≤ t ∧ t ≤ i
  · rw [if_pos h, if_pos (by omega)]
  · rw [if_neg h, if_neg (by omega)]
theorem rdTo_succ (f m : Nat → Int) (d : Nat) (p : Int) (i j : Nat) (v : Int) (hv : v = (f (i - d + j) - f i * m j) % p) (t : Nat) :
    upd (rdTo f m d p i j) (i - d + j) v t = rdTo f m d p i (j + 1) t := by
  unfold upd rdTo
  by_cases e : t = i - d + j
  · subst e
    rw [if_pos rfl, if_pos (by omega), hv]
    rw [show i - d + j - (i - d) = j by omega]
  · rw [if_neg e]
    by_cases h : i - d ≤ t ∧ t < i - d + j
    · rw [if_pos h, if_pos (by omega)]
    · rw [if_neg h, if_neg (by omega)]
theorem rdTo_at (f m : Nat → Int) (d : Nat) (p : Int) (i j : Nat) : rdTo f m d p i j (i - d + j) = f (i - d + j) := by
  unfold rdTo; rw [if_neg (by omega)]
theorem sub_mod (a b c p : Int) : (a + (p - b) * c) % p = (a - b * c) % p := by
  have : a + (p - b) * c = (a - b * c) + p * c := by rw [Int.sub_mul]; omega
  rw [this, Int.add_mul_emod_self_left]

theorem digF_in (n p : Nat) (hp : 0 < p) : inP p (digF n p) := by
  intro t
  unfold digF
  have := Nat.mod_lt (n / p ^ t) hp
  omega
/-- All eleven are 0. -/
def isZ (f : Nat → Int) : Prop := ∀ t, t < 11 → f t = 0
/-- The row has no monic divisor of the degrees up to d - 1, nor of degree d one whose low digits are below c. -/
def irrTo (f : Nat → Int) (p d c : Nat) : Prop := (∀ e, 1 ≤ e → e < d → ∀ b, b < p ^ e → ¬ isZ (redN (digF (p ^ e + b) p) e p (11 - e) f)) ∧ (∀ b, b < c → ¬ isZ (redN (digF (p ^ d + b) p) d p (11 - d) f))
/-- The row of degree k is irreducible. -/
def irrP (f : Nat → Int) (k p : Nat) : Prop := ∀ e, 1 ≤ e → 2 * e ≤ k → ∀ b, b < p ^ e → ¬ isZ (redN (digF (p ^ e + b) p) e p (11 - e) f)

theorem irrTo_succ {f : Nat → Int} {p d b : Nat} (h : irrTo f p d b) (hn : ¬ isZ (redN (digF (p ^ d + b) p) d p (11 - d) f)) : irrTo f p d (b + 1) := by
  refine ⟨h.1, fun b' hb => ?_⟩
  by_cases e : b' = b
  · subst e; exact hn
  · exact h.2 b' (by omega)
theorem irrTo_next {f : Nat → Int} {p d : Nat} (h : irrTo f p d (p ^ d)) : irrTo f p (d + 1) 0 := by
  refine ⟨fun e h1 h2 b hb => ?_, fun b hb => by omega⟩
  by_cases he : e = d
  · subst he; exact h.2 b hb
  · exact h.1 e h1 (by omega) b hb
theorem irr_done {f : Nat → Int} {p d k : Nat} (h : irrTo f p d 0) (hk : k < 2 * d) : irrP f k p := fun e h1 h2 b hb => h.1 e h1 (by omega) b hb
theorem irr_not {f : Nat → Int} {p d k b : Nat} (h1 : 1 ≤ d) (h2 : 2 * d ≤ k) (hb : b < p ^ d) (hz : isZ (redN (digF (p ^ d + b) p) d p (11 - d) f)) : ¬ irrP f k p := fun h => h d h1 h2 b hb hz
theorem deg_le {p k : Nat} (hp : 2 ≤ p) (h : p ^ k ≤ 64) : k ≤ 6 := by
  apply Classical.byContradiction
  intro hk
  have h1 : 2 ^ k ≤ p ^ k := Nat.pow_le_pow_left hp k
  have h2 : 2 ^ 7 ≤ 2 ^ k := Nat.pow_le_pow_right (by decide) (by omega)
  omega
theorem pow_le_of {p d k : Nat} (hp : 2 ≤ p) (hd : d ≤ k) (h : p ^ k ≤ 64) : p ^ d ≤ 64 := Nat.le_trans (Nat.pow_le_pow_right (by omega) hd) h

/-- The lowest m digits, as a list. -/
def digL (n p m : Nat) : List Int := (List.range m).map (digF n p)
theorem digL_length (n p m : Nat) : (digL n p m).length = m := by simp [digL]
theorem digL_at (n p m j : Nat) (h : j < m) : (digL n p m).getD j 0 = digF n p j := by simp [digL, h]

/-- The numbers of a list, then 1, then 0: a monic row. -/
def monL (l : List Int) : Nat → Int := fun t => if t < l.length then l.getD t 0 else if t = l.length then 1 else 0

end Go.Proofs.YtcjkcgfohmhbcabDoor.Fd
