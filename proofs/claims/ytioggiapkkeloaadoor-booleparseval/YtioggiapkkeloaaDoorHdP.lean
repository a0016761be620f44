/- Matrices of signs: sums, four, Best's bound, columns, made even, products; nothing of the program. -/
import Derived.RowKit
namespace Go.Proofs.YtioggiapkkeloaaDoor

/-- A sum of n numbers. -/
def sm : Nat → (Nat → Int) → Int
  | 0, _ => 0
  | n + 1, f => sm n f + f n
theorem sm_congr {f g : Nat → Int} : ∀ {n : Nat}, (∀ i, i < n → f i = g i) → sm n f = sm n g
  | 0, _ => rfl
  | n + 1, h => by rw [sm, sm, sm_congr fun i hi => h i (by omega), h n (by omega)]
theorem sm_add (f g : Nat → Int) : ∀ n, sm n (fun i => f i + g i) = sm n f + sm n g
  | 0 => rfl
  | n + 1 => by rw [sm, sm, sm, sm_add f g n]; omega
theorem sm_mul (c : Int) (f : Nat → Int) : ∀ n, sm n (fun i => c * f i) = c * sm n f
  | 0 => by simp [sm]
  | n + 1 => by rw [sm, sm, sm_mul c f n, Int.mul_add]
theorem sm_const (c : Int) : ∀ n, sm n (fun _ => c) = n * c
  | 0 => by simp [sm]
  | n + 1 => by rw [sm, sm_const c n, Int.natCast_add, Int.add_mul]; simp
theorem sm_nil : ∀ n, sm n (fun _ => 0) = 0
  | 0 => rfl
  | n + 1 => by rw [sm, sm_nil n]; rfl
theorem sm_swap (f : Nat → Nat → Int) (m : Nat) : ∀ n, sm n (fun i => sm m (fun j => f i j)) = sm m (fun j => sm n (fun i => f i j))
  | 0 => by simp only [sm]; rw [sm_nil]
  | n + 1 => by
    rw [sm, sm_swap f m n, ← sm_add]
    exact sm_congr fun j _ => rfl
theorem sm_mulr (f : Nat → Int) (c : Int) (n : Nat) : sm n (fun i => f i * c) = sm n f * c := by
  rw [Int.mul_comm, ← sm_mul]
  exact sm_congr fun i _ => Int.mul_comm _ _
theorem sm_prod (f g : Nat → Int) (n m : Nat) : sm n f * sm m g = sm n fun i => sm m fun j => f i * g j := by
  rw [← sm_mulr]
  exact sm_congr fun i _ => (sm_mul _ _ _).symm
theorem sm_nonneg {f : Nat → Int} : ∀ {n : Nat}, (∀ i, i < n → 0 ≤ f i) → 0 ≤ sm n f
  | 0, _ => Int.le_refl _
  | n + 1, h => by
    have h1 := sm_nonneg (n := n) fun i hi => h i (by omega)
    have h2 := h n (by omega)
    rw [sm]; omega
theorem sm_le {f : Nat → Int} : ∀ {n : Nat}, (∀ i, i < n → 0 ≤ f i) → ∀ k, k < n → f k ≤ sm n f
  | 0, _, k, hk => by omega
  | n + 1, h, k, hk => by
    rw [sm]
    have h0 := sm_nonneg (n := n) fun i hi => h i (by omega)
    have h2 := h n (by omega)
    by_cases e : k = n
    · subst e; omega
    · have := sm_le (n := n) (fun i hi => h i (by omega)) k (by omega)
      omega
theorem sq_nonneg (a : Int) : 0 ≤ a * a := by
  rcases Int.le_total 0 a with h | h
  · exact Int.mul_nonneg h h
  · have := Int.mul_nonneg (show 0 ≤ -a by omega) (show 0 ≤ -a by omega)
    rwa [Int.neg_mul_neg] at this
/-- One term apart. -/
theorem sm_pick (f : Nat → Int) (k : Nat) : ∀ n, k < n → sm n f = f k + sm n fun i => if i = k then 0 else f i
  | 0, h => by omega
  | n + 1, h => by
    rw [sm, sm]
    by_cases e : k = n
    · subst e
      rw [if_pos rfl, sm_congr (f := fun i => if i = k then 0 else f i) (g := f) fun i hi => if_neg (by omega)]
      omega
    · rw [sm_pick f k n (by omega), if_neg (fun h => e h.symm)]
      omega
/-- Sums of products of numbers by the square of their sum. -/
theorem cauchy (f : Nat → Int) (n : Nat) : sm n f * sm n f ≤ n * sm n fun i => f i * f i := by
  have h : 0 ≤ sm n fun i => sm n fun j => (f i - f j) * (f i - f j) := sm_nonneg fun i _ => sm_nonneg fun j _ => sq_nonneg _
  have e : (sm n fun i => sm n fun j => (f i - f j) * (f i - f j)) = sm n (fun i => sm n fun j => f i * f i + f j * f j) + sm n fun i => sm n fun j => (-2) * (f i * f j) := by
    rw [← sm_add]
    refine sm_congr fun i _ => ?_
    rw [← sm_add]
    refine sm_congr fun j _ => ?_
    grind
  have e1 : (sm n fun i => sm n fun j => (-2) * (f i * f j)) = (-2) * (sm n f * sm n f) := by
    rw [sm_prod, ← sm_mul]
    exact sm_congr fun i _ => sm_mul _ _ _
  have e2 : (sm n fun i => sm n fun j => f i * f i + f j * f j) = n * (sm n fun i => f i * f i) + n * (sm n fun i => f i * f i) := by
    have : (sm n fun i => sm n fun j => f i * f i + f j * f j) = sm n fun i => n * (f i * f i) + sm n fun j => f j * f j := sm_congr fun i _ => by rw [sm_add, sm_const]
    rw [this, sm_add, sm_mul, sm_const]
  rw [e, e1, e2] at h
  omega
def Sg (a : Int) : Prop := a = 1 ∨ a = -1
theorem Sg.sq {a : Int} (h : Sg a) : a * a = 1 := by rcases h with rfl | rfl <;> rfl
theorem Sg.mul {a b : Int} (h : Sg a) (k : Sg b) : Sg (a * b) := by
  rcases h with rfl | rfl <;> rcases k with rfl | rfl
  · exact .inl rfl
  · exact .inr rfl
  · exact .inr rfl
  · exact .inl rfl
/-- A matrix of signs. -/
structure Had (n : Nat) (A : Nat → Nat → Int) : Prop where
  one : ∀ i j, i < n → j < n → Sg (A i j)
  ort : ∀ i j, i < n → j < n → i ≠ j → sm n (fun k => A i k * A j k) = 0
section
variable {n m : Nat} {A B : Nat → Nat → Int}
theorem Had.self (h : Had n A) {i : Nat} (hi : i < n) : sm n (fun k => A i k * A i k) = n := by
  rw [sm_congr (g := fun _ => 1) fun k hk => (h.one i k hi hk).sq, sm_const]; omega
/-- The side is 1, 2, or a multiple of 4. -/
theorem Had.four (h : Had n A) (h3 : 3 ≤ n) : n % 4 = 0 := by
  have e : (sm n fun k => (A 0 k + A 1 k) * (A 0 k + A 2 k)) = n := by
    have : (sm n fun k => (A 0 k + A 1 k) * (A 0 k + A 2 k)) = sm n fun k => (A 0 k * A 0 k + A 1 k * A 0 k) + (A 0 k * A 2 k + A 1 k * A 2 k) := sm_congr fun k _ => by grind
    rw [this, sm_add, sm_add, sm_add, h.self (by omega), h.ort 1 0 (by omega) (by omega) (by omega), h.ort 0 2 (by omega) (by omega) (by omega), h.ort 1 2 (by omega) (by omega) (by omega)]
    omega
  have d : ∀ m, m ≤ n → ∃ c, (sm m fun k => (A 0 k + A 1 k) * (A 0 k + A 2 k)) = 4 * c := by
    intro m
    induction m with
    | zero => exact fun _ => ⟨0, rfl⟩
    | succ m ih =>
      intro hm
      obtain ⟨c, hc⟩ := ih (by omega)
      rw [sm, hc]
      rcases h.one 0 m (by omega) (by omega) with a | a <;> rcases h.one 1 m (by omega) (by omega) with b | b <;> rcases h.one 2 m (by omega) (by omega) with d | d <;> rw [a, b, d]
      · exact ⟨c + 1, by omega⟩
      all_goals first | exact ⟨c, by omega⟩ | exact ⟨c + 1, by omega⟩
  obtain ⟨c, hc⟩ := d n (Nat.le_refl _)
  omega
/-- The columns, too. -/
theorem Had.cols (h : Had n A) {p q : Nat} (hp : p < n) (hq : q < n) (hn : p ≠ q) : sm n (fun i => A i p * A i q) = 0 := by
  let c : Nat → Nat → Int := fun p q => sm n fun i => A i p * A i q
  have tot : (sm n fun p => sm n fun q => c p q * c p q) = n * (n * n) := by
    have e1 : ∀ p q, c p q * c p q = sm n fun i => sm n fun j => (A i p * A j p) * (A i q * A j q) := fun p q => by
      show sm n _ * sm n _ = _
      rw [sm_prod]
      exact sm_congr fun i _ => sm_congr fun j _ => by grind
    have e2 : (sm n fun p => sm n fun q => c p q * c p q) = sm n fun i => sm n fun j => (sm n fun p => A i p * A j p) * (sm n fun q => A i q * A j q) := by
      have s1 : (sm n fun p => sm n fun q => c p q * c p q) = sm n fun p => sm n fun i => sm n fun q => sm n fun j => (A i p * A j p) * (A i q * A j q) := sm_congr fun p _ => by
        rw [sm_congr fun q _ => e1 p q, sm_swap]
      rw [s1, sm_swap]
      refine sm_congr fun i _ => ?_
      have s2 : (sm n fun p => sm n fun q => sm n fun j => (A i p * A j p) * (A i q * A j q)) = sm n fun p => sm n fun j => sm n fun q => (A i p * A j p) * (A i q * A j q) := sm_congr fun p _ => sm_swap _ _ _
      rw [s2, sm_swap]
      exact sm_congr fun j _ => (sm_prod _ _ _ _).symm
    rw [e2]
    have e3 : ∀ i, i < n → (sm n fun j => (sm n fun p => A i p * A j p) * (sm n fun q => A i q * A j q)) = n * n := fun i hi => by
      rw [sm_pick _ i n hi, h.self hi, sm_congr (g := fun _ => 0) fun j hj => ?_, sm_nil]
      · omega
      · by_cases e : j = i
        · rw [if_pos e]
        · rw [if_neg e, h.ort i j hi hj (fun k => e k.symm)]; rfl
    rw [sm_congr e3, sm_const]
  have dia : (sm n fun p => c p p * c p p) = n * (n * n) := by
    have : ∀ p, p < n → c p p * c p p = n * n := fun p hp => by
      have : c p p = n := by
        show sm n _ = _
        rw [sm_congr (g := fun _ => 1) fun i hi => (h.one i p hi hp).sq, sm_const]; omega
      rw [this]
    rw [sm_congr this, sm_const]
  have spl : (sm n fun p => sm n fun q => c p q * c p q) = (sm n fun p => c p p * c p p) + sm n fun p => sm n fun q => if q = p then 0 else c p q * c p q := by
    rw [← sm_add]
    exact sm_congr fun p hp => sm_pick _ p n hp
  have z : (sm n fun p => sm n fun q => if q = p then 0 else c p q * c p q) = 0 := by omega
  have nn : ∀ p q, 0 ≤ (if q = p then 0 else c p q * c p q) := fun p q => by
    split
    · exact Int.le_refl _
    · exact sq_nonneg _
  have l1 := sm_le (n := n) (f := fun p => sm n fun q => if q = p then 0 else c p q * c p q) (fun p _ => sm_nonneg fun q _ => nn p q) p hp
  have l2 := sm_le (n := n) (f := fun q => if q = p then 0 else c p q * c p q) (fun q _ => nn p q) q hq
  simp only [if_neg (fun e => hn (Eq.symm e) : ¬ q = p)] at l2
  have s0 := sq_nonneg (c p q)
  have : c p q * c p q = 0 := by omega
  exact (Int.mul_eq_zero.1 this).elim id id
/-- All cells together. -/
def exc (n : Nat) (A : Nat → Nat → Int) : Int := sm n fun i => sm n fun j => A i j
/-- Best's bound. -/
theorem Had.best (h : Had n A) : exc n A * exc n A ≤ n * n * n := by
  have e : exc n A = sm n fun j => sm n fun i => A i j := sm_swap _ _ _
  rw [e]
  have c := cauchy (fun j => sm n fun i => A i j) n
  have t : (sm n fun j => (sm n fun i => A i j) * (sm n fun i => A i j)) = n * n := by
    have : ∀ j, (sm n fun i => A i j) * (sm n fun i => A i j) = sm n fun i => sm n fun k => A i j * A k j := fun j => sm_prod _ _ _ _
    rw [sm_congr fun j _ => this j, sm_swap]
    have e3 : ∀ i, i < n → (sm n fun j => sm n fun k => A i j * A k j) = n := fun i hi => by
      rw [sm_swap, sm_pick _ i n hi, h.self hi, sm_congr (g := fun _ => 0) fun k hk => ?_, sm_nil]
      · omega
      · by_cases e : k = i
        · rw [if_pos e]
        · rw [if_neg e, h.ort i k hi hk (fun k => e k.symm)]
    rw [sm_congr e3, sm_const]
  rw [t] at c
  rw [Int.mul_assoc]
  exact c
/-- Made even. -/
def evn (A : Nat → Nat → Int) (i j : Nat) : Int := A i j * A i 0 * (A 0 j * A 0 0)
theorem Had.even (h : Had n A) (h0 : 0 < n) : Had n (evn A) := by
  refine ⟨fun i j hi hj => ((h.one i j hi hj).mul (h.one i 0 hi h0)).mul ((h.one 0 j h0 hj).mul (h.one 0 0 h0 h0)), fun i j hi hj hn => ?_⟩
  have e : ∀ k, k < n → evn A i k * evn A j k = (A i 0 * A j 0) * (A i k * A j k) := fun k hk => by
    have s1 := (h.one 0 k h0 hk).sq
    have s2 := (h.one 0 0 h0 h0).sq
    unfold evn
    have : A i k * A i 0 * (A 0 k * A 0 0) * (A j k * A j 0 * (A 0 k * A 0 0)) = (A i 0 * A j 0) * (A i k * A j k) * ((A 0 k * A 0 k) * (A 0 0 * A 0 0)) := by grind
    rw [this, s1, s2]; simp
  rw [sm_congr e, sm_mul, h.ort i j hi hj hn, Int.mul_zero]
theorem Had.rim_r (h : Had n A) (h0 : 0 < n) {i : Nat} (hi : i < n) : evn A i 0 = 1 := by
  unfold evn
  rw [(h.one i 0 hi h0).sq, (h.one 0 0 h0 h0).sq]; rfl
theorem Had.rim_c (h : Had n A) (h0 : 0 < n) {j : Nat} (hj : j < n) : evn A 0 j = 1 := by
  unfold evn
  have : A 0 j * A 0 0 * (A 0 j * A 0 0) = (A 0 j * A 0 j) * (A 0 0 * A 0 0) := by grind
  rw [this, (h.one 0 j h0 hj).sq, (h.one 0 0 h0 h0).sq]; rfl
theorem evn_evn (h : Had n A) (h0 : 0 < n) {i j : Nat} (hi : i < n) (hj : j < n) : evn (evn A) i j = evn A i j := by
  show evn A i j * evn A i 0 * (evn A 0 j * evn A 0 0) = evn A i j
  rw [h.rim_r h0 hi, h.rim_c h0 hj, h.rim_r h0 h0]; simp
/-- A product. -/
def prd (m : Nat) (A B : Nat → Nat → Int) (i j : Nat) : Int := A (i / m) (j / m) * B (i % m) (j % m)
theorem sm_split (f : Nat → Int) (m : Nat) : ∀ n, sm (n * m) f = sm n fun a => sm m fun b => f (a * m + b)
  | 0 => by simp [sm]
  | n + 1 => by
    rw [sm, ← sm_split f m n, Nat.succ_mul]
    have : ∀ k, sm (n * m + k) f = sm (n * m) f + sm k fun b => f (n * m + b) := by
      intro k
      induction k with
      | zero => simp [sm]
      | succ k ih => rw [← Nat.add_assoc, sm, ih, sm]; omega
    exact this m
theorem dm (m : Nat) (hm : 0 < m) {a b : Nat} (hb : b < m) : (a * m + b) / m = a ∧ (a * m + b) % m = b := by
  constructor
  · rw [Nat.mul_comm, Nat.mul_add_div hm, Nat.div_eq_of_lt hb, Nat.add_zero]
  · rw [Nat.mul_comm, Nat.mul_add_mod, Nat.mod_eq_of_lt hb]
theorem prd_sum (f g : Nat → Int) (hm : 0 < m) : sm (n * m) (fun k => f (k / m) * g (k % m)) = sm n f * sm m g := by
  rw [sm_split, sm_prod]
  refine sm_congr fun a _ => sm_congr fun b hb => ?_
  rw [(dm m hm hb).1, (dm m hm hb).2]
theorem Had.prod (h : Had n A) (k : Had m B) (hm : 0 < m) : Had (n * m) (prd m A B) := by
  have hd : ∀ i, i < n * m → i / m < n := fun i hi => Nat.div_lt_of_lt_mul (by rwa [Nat.mul_comm])
  have hr : ∀ i, i % m < m := fun i => Nat.mod_lt _ hm
  refine ⟨fun i j hi hj => (h.one _ _ (hd i hi) (hd j hj)).mul (k.one _ _ (hr i) (hr j)), fun i j hi hj hn => ?_⟩
  have e : ∀ x, prd m A B i x * prd m A B j x = (A (i / m) (x / m) * A (j / m) (x / m)) * (B (i % m) (x % m) * B (j % m) (x % m)) := fun x => by unfold prd; grind
  rw [sm_congr fun x _ => e x, prd_sum (fun a => A (i / m) a * A (j / m) a) (fun b => B (i % m) b * B (j % m) b) hm]
  by_cases e1 : i / m = j / m
  · have e2 : i % m ≠ j % m := fun e2 => hn (by rw [← Nat.div_add_mod i m, ← Nat.div_add_mod j m, e1, e2])
    rw [k.ort _ _ (hr i) (hr j) e2, Int.mul_zero]
  · rw [h.ort _ _ (hd i hi) (hd j hj) e1, Int.zero_mul]
theorem exc_prod (hm : 0 < m) : exc (n * m) (prd m A B) = exc n A * exc m B := by
  unfold exc prd
  have e : ∀ i, (sm (n * m) fun j => A (i / m) (j / m) * B (i % m) (j % m)) = (sm n fun a => A (i / m) a) * (sm m fun b => B (i % m) b) := fun i => prd_sum (fun a => A (i / m) a) (fun b => B (i % m) b) hm
  rw [sm_congr fun i _ => e i, prd_sum (fun a => sm n fun j => A a j) (fun b => sm m fun j => B b j) hm]
end

end Go.Proofs.YtioggiapkkeloaaDoor
