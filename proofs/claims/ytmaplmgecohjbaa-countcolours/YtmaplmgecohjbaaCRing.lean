/- Rings: the sum by Moebius is the sum over the turns; nothing of the program. -/
namespace Go.Proofs.Ytmaplmgecohjbaa

/-- Sums of integers. -/
def sumN (f : Nat → Int) : Nat → Int
  | 0 => 0
  | n + 1 => sumN f n + f n
theorem sumN_congr {f g : Nat → Int} : ∀ {n : Nat}, (∀ i, i < n → f i = g i) → sumN f n = sumN g n
  | 0, _ => rfl
  | n + 1, h => by
    rw [sumN, sumN, sumN_congr fun i hi => h i (by omega), h n (by omega)]
theorem sumN_zero : ∀ n, sumN (fun _ => 0) n = 0
  | 0 => rfl
  | n + 1 => by rw [sumN, sumN_zero n]; rfl
theorem sumN_add (f g : Nat → Int) : ∀ n, sumN (fun i => f i + g i) n = sumN f n + sumN g n
  | 0 => rfl
  | n + 1 => by rw [sumN, sumN, sumN, sumN_add f g n]; omega
theorem sumN_mul (a : Int) (f : Nat → Int) : ∀ n, sumN (fun i => a * f i) n = a * sumN f n
  | 0 => by rw [sumN, sumN, Int.mul_zero]
  | n + 1 => by rw [sumN, sumN, sumN_mul a f n, Int.mul_add]
theorem sumN_mulr (a : Int) (f : Nat → Int) (n : Nat) : sumN (fun i => f i * a) n = sumN f n * a := by
  rw [Int.mul_comm, ← sumN_mul]; exact sumN_congr fun i _ => Int.mul_comm _ _
theorem sumN_const (a : Int) : ∀ n : Nat, sumN (fun _ => a) n = n * a
  | 0 => by simp [sumN]
  | n + 1 => by rw [sumN, sumN_const a n, Int.natCast_succ, Int.add_mul, Int.one_mul]
theorem sumN_swap (f : Nat → Nat → Int) (m : Nat) : ∀ n, sumN (fun i => sumN (f i) m) n = sumN (fun j => sumN (fun i => f i j) n) m
  | 0 => by simp only [sumN]; exact (sumN_zero m).symm
  | n + 1 => by
    rw [sumN, sumN_swap f m n, ← sumN_add]
    exact sumN_congr fun j _ => by rw [sumN]
theorem sumN_pad {f : Nat → Int} {m : Nat} : ∀ {n : Nat}, m ≤ n → (∀ i, m ≤ i → f i = 0) → sumN f n = sumN f m
  | 0, h, _ => by rw [Nat.le_zero.1 h]
  | n + 1, h, hz => by
    by_cases e : m = n + 1
    · rw [e]
    · rw [sumN, sumN_pad (by omega) hz, hz n (by omega), Int.add_zero]
theorem sumN_one {f : Nat → Int} {q : Nat} : ∀ {n : Nat}, q < n → (∀ i, i ≠ q → f i = 0) → sumN f n = f q
  | 0, h, _ => by omega
  | n + 1, h, hz => by
    rw [sumN]
    by_cases e : q = n
    · subst e
      rw [sumN_congr (g := fun _ => 0) fun i hi => hz i (by omega), sumN_zero, Int.zero_add]
    · rw [sumN_one (by omega) hz, hz n (fun h => e h.symm), Int.add_zero]
theorem sumN_nonneg {f : Nat → Int} : ∀ {n : Nat}, (∀ i, i < n → 0 ≤ f i) → 0 ≤ sumN f n
  | 0, _ => Int.le_refl _
  | n + 1, h => by
    have h1 := sumN_nonneg (f := f) (n := n) fun i hi => h i (by omega)
    have h2 := h n (by omega)
    rw [sumN]; omega
theorem sumN_le {f g : Nat → Int} : ∀ {n : Nat}, (∀ i, i < n → f i ≤ g i) → sumN f n ≤ sumN g n
  | 0, _ => Int.le_refl _
  | n + 1, h => by
    have h1 := sumN_le (f := f) (g := g) (n := n) fun i hi => h i (by omega)
    have h2 := h n (by omega)
    rw [sumN, sumN]; omega
/-- One place of a sum turned. -/
theorem sumN_turn {f g : Nat → Int} {q : Nat} : ∀ {n : Nat}, q < n → (∀ i, i ≠ q → g i = f i) → sumN g n = sumN f n + (g q - f q) := by
  intro n hq h
  have e : sumN g n = sumN (fun i => f i + (g i - f i)) n := sumN_congr fun i _ => by omega
  rw [e, sumN_add, sumN_one (f := fun i => g i - f i) hq fun i hi => by rw [h i hi]; omega]

/-- The document's Moebius. -/
def mobG : Nat → Nat → Nat → Int → Int
  | 0, _, _, m => m
  | f + 1, n, p, m => if p ≤ n then (if n % p = 0 then (if n / p % p = 0 then 0 else mobG f (n / p) (p + 1) (-m)) else mobG f n (p + 1) m) else m
def mob (n : Nat) : Int := mobG n n 2 1

/-- The document's inner sum, and the whole. -/
def inS (d k : Nat) : Int := sumN (fun c => if d % (c + 1) = 0 then mob (d / (c + 1)) * ((k ^ (c + 1) : Nat) : Int) else 0) d
def docB (n k : Nat) : Int := sumN (fun d => if n % (d + 1) = 0 then (inS (d + 1) k).tdiv ((d + 1 : Nat) : Int) else 0) n
/-- The sum over the turns. -/
def turnS (n k : Nat) : Int := sumN (fun i => ((k ^ Nat.gcd n i : Nat) : Int)) n

def inM (d r : Nat) : Int := sumN (fun c => if d % (c + 1) = 0 then mob (d / (c + 1)) * ((r ^ (c + 1) % d : Nat) : Int) else 0) d
theorem inM_zero : ∀ d, d < 60 → ∀ r, r < d → inM d r % (d : Int) = 0 := by decide +kernel
theorem sum_emod (d : Int) (f g : Nat → Int) : ∀ n, (∀ i, i < n → f i % d = g i % d) → sumN f n % d = sumN g n % d
  | 0, _ => rfl
  | n + 1, h => by
    rw [sumN, sumN, Int.add_emod, sum_emod d f g n (fun i hi => h i (by omega)), h n (by omega), ← Int.add_emod]
theorem inS_dvd {d : Nat} (h : d < 60) (h0 : 0 < d) (k : Nat) : (d : Int) ∣ inS d k := by
  refine Int.dvd_of_emod_eq_zero ?_
  rw [← inM_zero d h (k % d) (Nat.mod_lt _ h0)]
  refine sum_emod _ _ _ _ fun c _ => ?_
  by_cases e : d % (c + 1) = 0
  · simp only [e, if_true]
    rw [← Nat.pow_mod, Int.natCast_emod, Int.mul_emod, Int.mul_emod (mob _) (_ % _), Int.emod_emod_of_dvd _ (Int.dvd_refl _)]
  · simp only [e, if_false]
def coefD (n c : Nat) : Int := sumN (fun d => if n % (d + 1) = 0 then (if c ≤ d then (if (d + 1) % (c + 1) = 0 then ((n / (d + 1) : Nat) : Int) * mob ((d + 1) / (c + 1)) else 0) else 0) else 0) n
def coefT (n c : Nat) : Int := sumN (fun i => if Nat.gcd n i = c + 1 then 1 else 0) n
theorem coefs : ∀ n, n < 60 → ∀ c, c < n → coefD n c = coefT n c := by decide +kernel

theorem turnS_coef (n k : Nat) (h0 : 0 < n) : turnS n k = sumN (fun c => coefT n c * ((k ^ (c + 1) : Nat) : Int)) n := by
  have e : ∀ c, c < n → coefT n c * ((k ^ (c + 1) : Nat) : Int) = sumN (fun i => (if Nat.gcd n i = c + 1 then 1 else 0) * ((k ^ (c + 1) : Nat) : Int)) n := fun c _ => (sumN_mulr _ _ _).symm
  rw [sumN_congr e, ← sumN_swap]
  refine sumN_congr fun i _ => ?_
  have hg : 0 < Nat.gcd n i := Nat.gcd_pos_of_pos_left _ h0
  have hgn : Nat.gcd n i ≤ n := Nat.gcd_le_left _ h0
  rw [sumN_one (q := Nat.gcd n i - 1) (by omega) fun c hc => by rw [if_neg (by omega), Int.zero_mul]]
  rw [if_pos (by omega), Int.one_mul, Nat.sub_add_cancel hg]
theorem inS_pad {d n k : Nat} (h : d ≤ n) : inS d k = sumN (fun c => if c < d then (if d % (c + 1) = 0 then mob (d / (c + 1)) * ((k ^ (c + 1) : Nat) : Int) else 0) else 0) n := by
  rw [sumN_pad h fun i hi => if_neg (by omega)]
  exact sumN_congr fun i hi => by rw [if_pos hi]
theorem docB_coef {n k : Nat} (h : n < 60) : docB n k * n = sumN (fun c => coefD n c * ((k ^ (c + 1) : Nat) : Int)) n := by
  unfold docB
  rw [← sumN_mulr]
  have e : ∀ c, c < n → coefD n c * ((k ^ (c + 1) : Nat) : Int) = sumN (fun d => (if n % (d + 1) = 0 then (if c ≤ d then (if (d + 1) % (c + 1) = 0 then ((n / (d + 1) : Nat) : Int) * mob ((d + 1) / (c + 1)) else 0) else 0) else 0) * ((k ^ (c + 1) : Nat) : Int)) n := fun c _ => (sumN_mulr _ _ _).symm
  rw [sumN_congr e, ← sumN_swap]
  refine sumN_congr fun d hd => ?_
  by_cases hn : n % (d + 1) = 0
  · simp only [hn, if_true]
    obtain ⟨q, hq⟩ := inS_dvd (d := d + 1) (by omega) (by omega) k
    have hne : ((d + 1 : Nat) : Int) ≠ 0 := by omega
    have hN : n = n / (d + 1) * (d + 1) := (Nat.div_mul_cancel (Nat.dvd_of_mod_eq_zero hn)).symm
    have e1 : (inS (d + 1) k).tdiv ((d + 1 : Nat) : Int) * (n : Int) = ((n / (d + 1) : Nat) : Int) * inS (d + 1) k := by
      rw [hq, Int.mul_tdiv_cancel_left _ hne]
      conv => lhs; rw [hN]
      rw [Int.natCast_mul, Int.mul_comm q, Int.mul_assoc]
    rw [e1, inS_pad (n := n) (by omega), ← sumN_mul]
    refine sumN_congr fun c _ => ?_
    by_cases h1 : c < d + 1
    · have h2 : c ≤ d := by omega
      simp only [h1, h2, if_true]
      by_cases h3 : (d + 1) % (c + 1) = 0
      · simp only [h3, if_true]; rw [Int.mul_assoc]
      · simp only [h3, if_false]; simp
    · have h2 : ¬ c ≤ d := by omega
      simp [h1, h2]
  · simp only [hn, if_false]
    rw [sumN_congr (g := fun _ => 0) fun c _ => Int.zero_mul _, sumN_zero, Int.zero_mul]
/-- The document's rings are the program's. -/
theorem ring_eq {n k : Nat} (h0 : 0 < n) (h : n < 60) : docB n k * n = turnS n k := by
  rw [docB_coef h, turnS_coef n k h0]
  exact sumN_congr fun c hc => by rw [coefs n h c hc]
theorem ring_div {n k : Nat} (h0 : 0 < n) (h : n < 60) : (turnS n k).tdiv n = docB n k := by
  rw [← ring_eq h0 h, Int.mul_tdiv_cancel _ (by omega)]

theorem turnS_prime {p k : Nat} (h1 : 1 < p) (hp : ∀ d, 1 < d → d < p → p % d ≠ 0) : turnS p k = ((k ^ p : Nat) : Int) + (p - 1 : Int) * k := by
  obtain ⟨m, rfl⟩ : ∃ m, p = m + 1 := ⟨p - 1, by omega⟩
  have e : ∀ m', m' ≤ m → sumN (fun i => ((k ^ Nat.gcd (m + 1) i : Nat) : Int)) (m' + 1) = ((k ^ (m + 1) : Nat) : Int) + (m' : Int) * k := by
    intro m'
    induction m' with
    | zero => intro _; simp [sumN]
    | succ j ih =>
      intro hj
      rw [sumN, ih (by omega)]
      have hg : Nat.gcd (m + 1) (j + 1) = 1 := by
        have d1 := Nat.gcd_dvd_left (m + 1) (j + 1)
        have g0 : 0 < Nat.gcd (m + 1) (j + 1) := Nat.gcd_pos_of_pos_left _ (by omega)
        have g1 := Nat.gcd_le_right (n := j + 1) (m + 1) (by omega)
        by_cases e : Nat.gcd (m + 1) (j + 1) = 1
        · exact e
        · exact absurd (Nat.mod_eq_zero_of_dvd d1) (hp _ (by omega) (by omega))
      simp only [hg, Nat.pow_one]
      rw [Int.natCast_succ, Int.add_mul, Int.one_mul]; omega
  have := e m (Nat.le_refl _)
  unfold turnS
  rw [this]
  congr 2
  omega

end Go.Proofs.Ytmaplmgecohjbaa
