/- The walk of Check. -/
import Derived.RowKit
import Derived.Test.YtlmjlffipinjiabDoorDPure
import Derived.Test.YtlmjlffipinjiabDoorBPure
import Derived.Test.YtlmjlffipinjiabDoorPBase
import Derived.Shelf.Abstract
import Derived.Deep.RegionHeld3
import Derived.Deep.MidRow
/- Matrices of signs as lists, what is wrong with them, Sylvester's and Paley's; nothing of the program. -/
/- Matrices of signs: sums, four, Best's bound, columns, made even, products; nothing of the program. -/
namespace Go.Proofs.YtlmjlffipinjiabDoor.Hd

/-- A sum of n numbers. -/
def sm : Nat → (Nat → Int) → Int
  | 0, _ => 0
  | n + 1, f => sm n f + f n
theorem sm_congr {f g : Nat → Int} : ∀ {n : Nat}, (∀ i, i < n → f i = g i) → sm n f = sm n g
  | 0, _ => rfl
  | n + 1, h => by rw [sm, sm, sm_congr fun i hi => h i (by omega), h n (by omega)]
theorem sm_add (f g : Nat → Int) : ∀ n, sm n (fun i => f i + g i) = sm n f + sm n g
  | 0 => rfl
  | n + 1 => by rw [sm, sm, sm, sm_add f g n]; omega
theorem sm_mul (c : Int) (f : Nat → Int) : ∀ n, sm n (fun i => c * f i) = c * sm n f
  | 0 => by simp [sm]
  | n + 1 => by rw [sm, sm, sm_mul c f n, Int.mul_add]
theorem sm_const (c : Int) : ∀ n, sm n (fun _ => c) = n * c
  | 0 => by simp [sm]
  | n + 1 => by rw [sm, sm_const c n, Int.natCast_add, Int.add_mul]; simp
theorem sm_nil : ∀ n, sm n (fun _ => 0) = 0
  | 0 => rfl
  | n + 1 => by rw [sm, sm_nil n]; rfl
theorem sm_swap (f : Nat → Nat → Int) (m : Nat) : ∀ n, sm n (fun i => sm m (fun j => f i j)) = sm m (fun j => sm n (fun i => f i j))
  | 0 => by simp only [sm]; rw [sm_nil]
  | n + 1 => by
    rw [sm, sm_swap f m n, ← sm_add]
    exact sm_congr fun j _ => rfl
theorem sm_mulr (f : Nat → Int) (c : Int) (n : Nat) : sm n (fun i => f i * c) = sm n f * c := by
  rw [Int.mul_comm, ← sm_mul]
  exact sm_congr fun i _ => Int.mul_comm _ _
theorem sm_prod (f g : Nat → Int) (n m : Nat) : sm n f * sm m g = sm n fun i => sm m fun j => f i * g j := by
  rw [← sm_mulr]
  exact sm_congr fun i _ => (sm_mul _ _ _).symm
theorem sm_nonneg {f : Nat → Int} : ∀ {n : Nat}, (∀ i, i < n → 0 ≤ f i) → 0 ≤ sm n f
  | 0, _ => Int.le_refl _
  | n + 1, h => by
    have h1 := sm_nonneg (n := n) fun i hi => h i (by omega)
    have h2 := h n (by omega)
    rw [sm]; omega
theorem sm_le {f : Nat → Int} : ∀ {n : Nat}, (∀ i, i < n → 0 ≤ f i) → ∀ k, k < n → f k ≤ sm n f
  | 0, _, k, hk => by omega
  | n + 1, h, k, hk => by
    rw [sm]
    have h0 := sm_nonneg (n := n) fun i hi => h i (by omega)
    have h2 := h n (by omega)
    by_cases e : k = n
    · subst e; omega
    · have := sm_le (n := n) (fun i hi => h i (by omega)) k (by omega)
      omega
theorem sq_nonneg (a : Int) : 0 ≤ a * a := by
  rcases Int.le_total 0 a with h | h
  · exact Int.mul_nonneg h h
  · have := Int.mul_nonneg (show 0 ≤ -a by omega) (show 0 ≤ -a by omega)
    rwa [Int.neg_mul_neg] at this
/-- One term apart. -/
theorem sm_pick (f : Nat → Int) (k : Nat) : ∀ n, k < n → sm n f = f k + sm n fun i => if i = k then 0 else f i
  | 0, h => by omega
  | n + 1, h => by
    rw [sm, sm]
    by_cases e : k = n
    · subst e
      rw [if_pos rfl, sm_congr (f := fun i => if i = k then 0 else f i) (g := f) fun i hi => if_neg (by omega)]
      omega
    · rw [sm_pick f k n (by omega), if_neg (fun h => e h.symm)]
      omega
/-- Sums of products of numbers by the square of their sum. -/
theorem cauchy (f : Nat → Int) (n : Nat) : sm n f * sm n f ≤ n * sm n fun i => f i * f i := by
  have h : 0 ≤ sm n fun i => sm n fun j => (f i - f j) * (f i - f j) := sm_nonneg fun i _ => sm_nonneg fun j _ => sq_nonneg _
  have e : (sm n fun i => sm n fun j => (f i - f j) * (f i - f j)) = sm n (fun i => sm n fun j => f i * f i + f j * f j) + sm n fun i => sm n fun j => (-2) * (f i * f j) := by
    rw [← sm_add]
    refine sm_congr fun i _ => ?_
    rw [← sm_add]
    refine sm_congr fun j _ => ?_
    grind
  have e1 : (sm n fun i => sm n fun j => (-2) * (f i * f j)) = (-2) * (sm n f * sm n f) := by
    rw [sm_prod, ← sm_mul]
    exact sm_congr fun i _ => sm_mul _ _ _
  have e2 : (sm n fun i => sm n fun j => f i * f i + f j * f j) = n * (sm n fun i => f i * f i) + n * (sm n fun i => f i * f i) := by
    have : (sm n fun i => sm n fun j => f i * f i + f j * f j) = sm n fun i => n * (f i * f i) + sm n fun j => f j * f j := sm_congr fun i _ => by rw [sm_add, sm_const]
    rw [this, sm_add, sm_mul, sm_const]
  rw [e, e1, e2] at h
  omega
def Sg (a : Int) : Prop := a = 1 ∨ a = -1
theorem Sg.sq {a : Int} (h : Sg a) : a * a = 1 := by rcases h with rfl | rfl <;> rfl
theorem Sg.mul {a b : Int} (h : Sg a) (k : Sg b) : Sg (a * b) := by
  rcases h with rfl | rfl <;> rcases k with rfl | rfl
  · exact .inl rfl
  · exact .inr rfl
  · exact .inr rfl
  · exact .inl rfl
/-- A matrix of signs. -/
structure Had (n : Nat) (A : Nat → Nat → Int) : Prop where
  one : ∀ i j, i < n → j < n → Sg (A i j)
  ort : ∀ i j, i < n → j < n → i ≠ j → sm n (fun k => A i k * A j k) = 0
section
variable {n m : Nat} {A B : Nat → Nat → Int}
theorem Had.self (h : Had n A) {i : Nat} (hi : i < n) : sm n (fun k => A i k * A i k) = n := by
  rw [sm_congr (g := fun _ => 1) fun k hk => (h.one i k hi hk).sq, sm_const]; omega
/-- The side is 1, 2, or a multiple of 4. -/
theorem Had.four (h : Had n A) (h3 : 3 ≤ n) : n % 4 = 0 := by
  have e : (sm n fun k => (A 0 k + A 1 k) * (A 0 k + A 2 k)) = n := by
    have : (sm n fun k => (A 0 k + A 1 k) * (A 0 k + A 2 k)) = sm n fun k => (A 0 k * A 0 k + A 1 k * A 0 k) + (A 0 k * A 2 k + A 1 k * A 2 k) := sm_congr fun k _ => by grind
    rw [this, sm_add, sm_add, sm_add, h.self (by omega), h.ort 1 0 (by omega) (by omega) (by omega), h.ort 0 2 (by omega) (by omega) (by omega), h.ort 1 2 (by omega) (by omega) (by omega)]
    omega
  have d : ∀ m, m ≤ n → ∃ c, (sm m fun k => (A 0 k + A 1 k) * (A 0 k + A 2 k)) = 4 * c := by
    intro m
    induction m with
    | zero => exact fun _ => ⟨0, rfl⟩
    | succ m ih =>
      intro hm
      obtain ⟨c, hc⟩ := ih (by omega)
      rw [sm, hc]
      rcases h.one 0 m (by omega) (by omega) with a | a <;> rcases h.one 1 m (by omega) (by omega) with b | b <;> rcases h.one 2 m (by omega) (by omega) with d | d <;> rw [a, b, d]
      · exact ⟨c + 1, by omega⟩
      all_goals first | exact ⟨c, by omega⟩ | exact ⟨c + 1, by omega⟩
  obtain ⟨c, hc⟩ := d n (Nat.le_refl _)
  omega
/-- The columns, too. -/
theorem Had.cols (h : Had n A) {p q : Nat} (hp : p < n) (hq : q < n) (hn : p ≠ q) : sm n (fun i => A i p * A i q) = 0 := by
  let c : Nat → Nat → Int := fun p q => sm n fun i => A i p * A i q
  have tot : (sm n fun p => sm n fun q => c p q * c p q) = n * (n * n) := by
    have e1 : ∀ p q, c p q * c p q = sm n fun i => sm n fun j => (A i p * A j p) * (A i q * A j q) := fun p q => by
      show sm n _ * sm n _ = _
      rw [sm_prod]
      exact sm_congr fun i _ => sm_congr fun j _ => by grind
    have e2 : (sm n fun p => sm n fun q => c p q * c p q) = sm n fun i => sm n fun j => (sm n fun p => A i p * A j p) * (sm n fun q => A i q * A j q) := by
      have s1 : (sm n fun p => sm n fun q => c p q * c p q) = sm n fun p => sm n fun i => sm n fun q => sm n fun j => (A i p * A j p) * (A i q * A j q) := sm_congr fun p _ => by
        rw [sm_congr fun q _ => e1 p q, sm_swap]
      rw [s1, sm_swap]
      refine sm_congr fun i _ => ?_
      have s2 : (sm n fun p => sm n fun q => sm n fun j => (A i p * A j p) * (A i q * A j q)) = sm n fun p => sm n fun j => sm n fun q => (A i p * A j p) * (A i q * A j q) := sm_congr fun p _ => sm_swap _ _ _
      rw [s2, sm_swap]
      exact sm_congr fun j _ => (sm_prod _ _ _ _).symm
    rw [e2]
    have e3 : ∀ i, i < n → (sm n fun j => (sm n fun p => A i p * A j p) * (sm n fun q => A i q * A j q)) = n * n := fun i hi => by
      rw [sm_pick _ i n hi, h.self hi, sm_congr (g := fun _ => 0) fun j hj => ?_, sm_nil]
      · omega
      · by_cases e : j = i
        · rw [if_pos e]
        · rw [if_neg e, h.ort i j hi hj (fun k => e k.symm)]; rfl
    rw [sm_congr e3, sm_const]
  have dia : (sm n fun p => c p p * c p p) = n * (n * n) := by
    have : ∀ p, p < n → c p p * c p p = n * n := fun p hp => by
      have : c p p = n := by
        show sm n _ = _
        rw [sm_congr (g := fun _ => 1) fun i hi => (h.one i p hi hp).sq, sm_const]; omega
      rw [this]
    rw [sm_congr this, sm_const]
  have spl : (sm n fun p => sm n fun q => c p q * c p q) = (sm n fun p => c p p * c p p) + sm n fun p => sm n fun q => if q = p then 0 else c p q * c p q := by
    rw [← sm_add]
    exact sm_congr fun p hp => sm_pick _ p n hp
  have z : (sm n fun p => sm n fun q => if q = p then 0 else c p q * c p q) = 0 := by omega
  have nn : ∀ p q, 0 ≤ (if q = p then 0 else c p q * c p q) := fun p q => by
    split
    · exact Int.le_refl _
    · exact sq_nonneg _
  have l1 := sm_le (n := n) (f := fun p => sm n fun q => if q = p then 0 else c p q * c p q) (fun p _ => sm_nonneg fun q _ => nn p q) p hp
  have l2 := sm_le (n := n) (f := fun q => if q = p then 0 else c p q * c p q) (fun q _ => nn p q) q hq
  simp only [if_neg (fun e => hn (Eq.symm e) : ¬ q = p)] at l2
  have s0 := sq_nonneg (c p q)
  have : c p q * c p q = 0 := by omega
  exact (Int.mul_eq_zero.1 this).elim id id
/-- All cells together. -/
def exc (n : Nat) (A : Nat → Nat → Int) : Int := sm n fun i => sm n fun j => A i j
/-- Best's bound. -/
theorem Had.best (h : Had n A) : exc n A * exc n A ≤ n * n * n := by
  have e : exc n A = sm n fun j => sm n fun i => A i j := sm_swap _ _ _
  rw [e]
  have c := cauchy (fun j => sm n fun i => A i j) n
  have t : (sm n fun j => (sm n fun i => A i j) * (sm n fun i => A i j)) = n * n := by
    have : ∀ j, (sm n fun i => A i j) * (sm n fun i => A i j) = sm n fun i => sm n fun k => A i j * A k j := fun j => sm_prod _ _ _ _
    rw [sm_congr fun j _ => this j, sm_swap]
    have e3 : ∀ i, i < n → (sm n fun j => sm n fun k => A i j * A k j) = n := fun i hi => by
      rw [sm_swap, sm_pick _ i n hi, h.self hi, sm_congr (g := fun _ => 0) fun k hk => ?_, sm_nil]
      · omega
      · by_cases e : k = i
        · rw [if_pos e]
        · rw [if_neg e, h.ort i k hi hk (fun k => e k.symm)]
    rw [sm_congr e3, sm_const]
  rw [t] at c
  rw [Int.mul_assoc]
  exact c
/-- Made even. -/
def evn (A : Nat → Nat → Int) (i j : Nat) : Int := A i j * A i 0 * (A 0 j * A 0 0)
theorem Had.even (h : Had n A) (h0 : 0 < n) : Had n (evn A) := by
  refine ⟨fun i j hi hj => ((h.one i j hi hj).mul (h.one i 0 hi h0)).mul ((h.one 0 j h0 hj).mul (h.one 0 0 h0 h0)), fun i j hi hj hn => ?_⟩
  have e : ∀ k, k < n → evn A i k * evn A j k = (A i 0 * A j 0) * (A i k * A j k) := fun k hk => by
    have s1 := (h.one 0 k h0 hk).sq
    have s2 := (h.one 0 0 h0 h0).sq
    unfold evn
    have : A i k * A i 0 * (A 0 k * A 0 0) * (A j k * A j 0 * (A 0 k * A 0 0)) = (A i 0 * A j 0) * (A i k * A j k) * ((A 0 k * A 0 k) * (A 0 0 * A 0 0)) := by grind
    rw [this, s1, s2]; simp
  rw [sm_congr e, sm_mul, h.ort i j hi hj hn, Int.mul_zero]
theorem Had.rim_r (h : Had n A) (h0 : 0 < n) {i : Nat} (hi : i < n) : evn A i 0 = 1 := by
  unfold evn
  rw [(h.one i 0 hi h0).sq, (h.one 0 0 h0 h0).sq]; rfl
theorem Had.rim_c (h : Had n A) (h0 : 0 < n) {j : Nat} (hj : j < n) : evn A 0 j = 1 := by
  unfold evn
  have : A 0 j * A 0 0 * (A 0 j * A 0 0) = (A 0 j * A 0 j) * (A 0 0 * A 0 0) := by grind
  rw [this, (h.one 0 j h0 hj).sq, (h.one 0 0 h0 h0).sq]; rfl
theorem evn_evn (h : Had n A) (h0 : 0 < n) {i j : Nat} (hi : i < n) (hj : j < n) : evn (evn A) i j = evn A i j := by
  show evn A i j * evn A i 0 * (evn A 0 j * evn A 0 0) = evn A i j
  rw [h.rim_r h0 hi, h.rim_c h0 hj, h.rim_r h0 h0]; simp
/-- A product. -/
def prd (m : Nat) (A B : Nat → Nat → Int) (i j : Nat) : Int := A (i / m) (j / m) * B (i % m) (j % m)
theorem sm_split (f : Nat → Int) (m : Nat) : ∀ n, sm (n * m) f = sm n fun a => sm m fun b => f (a * m + b)
  | 0 => by simp [sm]
  | n + 1 => by
    rw [sm, ← sm_split f m n, Nat.succ_mul]
    have : ∀ k, sm (n * m + k) f = sm (n * m) f + sm k fun b => f (n * m + b) := by
      intro k
      induction k with
      | zero => simp [sm]
      | succ k ih => rw [← Nat.add_assoc, sm, ih, sm]; omega
    exact this m
theorem dm (m : Nat) (hm : 0 < m) {a b : Nat} (hb : b < m) : (a * m + b) / m = a ∧ (a * m + b) % m = b := by
  constructor
  · rw [Nat.mul_comm, Nat.mul_add_div hm, Nat.div_eq_of_lt hb, Nat.add_zero]
  · rw [Nat.mul_comm, Nat.mul_add_mod, Nat.mod_eq_of_lt hb]
theorem prd_sum (f g : Nat → Int) (hm : 0 < m) : sm (n * m) (fun k => f (k / m) * g (k % m)) = sm n f * sm m g := by
  rw [sm_split, sm_prod]
  refine sm_congr fun a _ => sm_congr fun b hb => ?_
  rw [(dm m hm hb).1, (dm m hm hb).2]
theorem Had.prod (h : Had n A) (k : Had m B) (hm : 0 < m) : Had (n * m) (prd m A B) := by
  have hd : ∀ i, i < n * m → i / m < n := fun i hi => Nat.div_lt_of_lt_mul (by rwa [Nat.mul_comm])
  have hr : ∀ i, i % m < m := fun i => Nat.mod_lt _ hm
  refine ⟨fun i j hi hj => (h.one _ _ (hd i hi) (hd j hj)).mul (k.one _ _ (hr i) (hr j)), fun i j hi hj hn => ?_⟩
  have e : ∀ x, prd m A B i x * prd m A B j x = (A (i / m) (x / m) * A (j / m) (x / m)) * (B (i % m) (x % m) * B (j % m) (x % m)) := fun x => by unfold prd; grind
  rw [sm_congr fun x _ => e x, prd_sum (fun a => A (i / m) a * A (j / m) a) (fun b => B (i % m) b * B (j % m) b) hm]
  by_cases e1 : i / m = j / m
  · have e2 : i % m ≠ j % m := fun e2 => hn (by rw [← Nat.div_add_mod i m, ← Nat.div_add_mod j m, e1, e2])
    rw [k.ort _ _ (hr i) (hr j) e2, Int.mul_zero]
  · rw [h.ort _ _ (hd i hi) (hd j hj) e1, Int.zero_mul]
theorem exc_prod (hm : 0 < m) : exc (n * m) (prd m A B) = exc n A * exc m B := by
  unfold exc prd
  have e : ∀ i, (sm (n * m) fun j => A (i / m) (j / m) * B (i % m) (j % m)) = (sm n fun a => A (i / m) a) * (sm m fun b => B (i % m) b) := fun i => prd_sum (fun a => A (i / m) a) (fun b => B (i % m) b) hm
  rw [sm_congr fun i _ => e i, prd_sum (fun a => sm n fun j => A a j) (fun b => sm m fun j => B b j) hm]
end

end Go.Proofs.YtlmjlffipinjiabDoor.Hd

/- The blocks of an even matrix of signs are a design; nothing of the program. -/
namespace Go.Proofs.YtlmjlffipinjiabDoor.Hd

theorem sm_front (f : Nat → Int) : ∀ n, sm (n + 1) f = f 0 + sm n fun k => f (k + 1)
  | 0 => by simp [sm]
  | n + 1 => by rw [sm, sm_front f n, sm]; omega
theorem cnt_sm {f : Nat → Int} : ∀ {m : Nat}, (∀ k, k < m → Sg (f k)) → 2 * (((List.range m).countP fun k => f k == 1 : Nat) : Int) = m + sm m f
  | 0, _ => by simp [sm]
  | m + 1, h => by
    have ih := cnt_sm (m := m) fun k hk => h k (by omega)
    rw [List.range_succ, List.countP_append, sm, List.countP_singleton]
    rcases h m (by omega) with e | e <;> rw [e] <;> simp <;> omega
theorem cnt_sm2 {f g : Nat → Int} : ∀ {m : Nat}, (∀ k, k < m → Sg (f k)) → (∀ k, k < m → Sg (g k)) → 4 * (((List.range m).countP fun k => (f k == 1) && (g k == 1) : Nat) : Int) = m + sm m f + sm m g + sm m fun k => f k * g k
  | 0, _, _ => by simp [sm]
  | m + 1, h, h' => by
    have ih := cnt_sm2 (m := m) (fun k hk => h k (by omega)) (fun k hk => h' k (by omega))
    rw [List.range_succ, List.countP_append, sm, sm, sm, List.countP_singleton]
    rcases h m (by omega) with e | e <;> rcases h' m (by omega) with e' | e' <;> rw [e, e'] <;> simp <;> omega
/-- The blocks of an even matrix of the side v + 1. -/
def hbR (v : Nat) (E : Nat → Nat → Int) (i : Nat) : List Nat := (List.range v).filter fun j => E (i + 1) (j + 1) == 1
def hbL (v : Nat) (E : Nat → Nat → Int) : List (List Nat) := (List.range v).map (hbR v E)
section
variable {v t : Nat} {E : Nat → Nat → Int}
theorem hb_size (h : Had (v + 1) E) (r0 : ∀ j, j < v + 1 → E 0 j = 1) (c0 : ∀ i, i < v + 1 → E i 0 = 1) (ht : v + 1 = 4 * t) {i : Nat} (hi : i < v) : (hbR v E i).length = 2 * t - 1 := by
  have e0 : sm (v + 1) (fun k => E (i + 1) k) = 0 := by
    rw [← h.ort (i + 1) 0 (by omega) (by omega) (by omega)]
    exact sm_congr fun k hk => by rw [r0 k hk, Int.mul_one]
  rw [sm_front, c0 (i + 1) (by omega)] at e0
  have c := cnt_sm (f := fun j => E (i + 1) (j + 1)) (m := v) fun k hk => h.one (i + 1) (k + 1) (by omega) (by omega)
  unfold hbR
  rw [← List.countP_eq_length_filter]
  omega
theorem hb_lev (h : Had (v + 1) E) (r0 : ∀ j, j < v + 1 → E 0 j = 1) (c0 : ∀ i, i < v + 1 → E i 0 = 1) (ht : v + 1 = 4 * t) : Lev v (hbL v E) 2 (t - 1) := fun s hs hl => by
  match s, hl with
  | [x, y], _ =>
    have hx : x < v := hs.lt x (by simp)
    have hy : y < v := hs.lt y (by simp)
    have hn : x ≠ y := by
      have := hs.nd
      simp only [List.nodup_cons, List.mem_singleton] at this
      exact this.1
    have col : ∀ p, p < v → sm v (fun i => E (i + 1) (p + 1)) = -1 := fun p hp => by
      have e0 : sm (v + 1) (fun i => E i (p + 1)) = 0 := by
        rw [← h.cols (p := p + 1) (q := 0) (by omega) (by omega) (by omega)]
        exact sm_congr fun i hi => by rw [c0 i hi, Int.mul_one]
      rw [sm_front, r0 (p + 1) (by omega)] at e0
      omega
    have pr : sm v (fun i => E (i + 1) (x + 1) * E (i + 1) (y + 1)) = -1 := by
      have e0 := h.cols (p := x + 1) (q := y + 1) (by omega) (by omega) (by omega)
      rw [sm_front, r0 (x + 1) (by omega), r0 (y + 1) (by omega)] at e0
      omega
    have c := cnt_sm2 (f := fun i => E (i + 1) (x + 1)) (g := fun i => E (i + 1) (y + 1)) (m := v) (fun k hk => h.one (k + 1) (x + 1) (by omega) (by omega)) (fun k hk => h.one (k + 1) (y + 1) (by omega) (by omega))
    rw [col x hx, col y hy, pr] at c
    have e : nb (hbL v E) [x, y] = (List.range v).countP fun k => (E (k + 1) (x + 1) == 1) && (E (k + 1) (y + 1) == 1) := by
      unfold nb hbL
      rw [List.countP_map]
      refine List.countP_congr fun k _ => ?_
      simp [hbR, hx, hy]
    rw [e]
    omega
theorem hb_bls : Bls v (hbL v E) := fun b hb => by
  obtain ⟨i, _, rfl⟩ := List.mem_map.1 hb
  exact ⟨List.nodup_range.filter _, fun x hx => List.mem_range.1 (List.mem_filter.1 hx).1⟩
end

end Go.Proofs.YtlmjlffipinjiabDoor.Hd

namespace Go.Proofs.YtlmjlffipinjiabDoor.Hd

/-- What stands in a row and a column of what stands row by row. -/
def mx (n : Nat) (L : List Int) (i j : Nat) : Int := L.getD (i * n + j) 0
def sgB (x : Int) : Bool := x == 1 || x == -1
theorem sgB_iff {x : Int} : sgB x = true ↔ Sg x := by unfold sgB Sg; simp
theorem sgB_no {x : Int} (h : ¬ Sg x) : sgB x = false := by
  cases e : sgB x
  · rfl
  · exact (h (sgB_iff.1 e)).elim
def sgLB (L : List Int) : Bool := (List.range L.length).all fun j => sgB (L.getD j 0)
theorem sgLB_iff {L : List Int} : sgLB L = true ↔ ∀ j, j < L.length → Sg (L.getD j 0) := by
  unfold sgLB
  rw [List.all_eq_true]
  exact ⟨fun h j hj => sgB_iff.1 (h j (List.mem_range.2 hj)), fun h j hj => sgB_iff.2 (h j (List.mem_range.1 hj))⟩
theorem sgLB_no {L : List Int} {j : Nat} (hj : j < L.length) (h : ¬ Sg (L.getD j 0)) : sgLB L = false := by
  cases e : sgLB L
  · rfl
  · exact (h (sgLB_iff.1 e j hj)).elim
/-- The products of two rows, all together. -/
def rp (n : Nat) (A : Nat → Nat → Int) (i k : Nat) : Int := sm n fun j => A i j * A k j
/-- Of each two rows they are 0. -/
def balB (n : Nat) (A : Nat → Nat → Int) : Bool := (List.range n).all fun i => (List.range i).all fun k => rp n A i k == 0
theorem balB_iff {n : Nat} {A : Nat → Nat → Int} : balB n A = true ↔ ∀ i k, i < n → k < i → rp n A i k = 0 := by
  unfold balB
  rw [List.all_eq_true]
  constructor
  · intro h i k hi hk
    have h1 := h i (List.mem_range.2 hi)
    rw [List.all_eq_true] at h1
    simpa using h1 k (List.mem_range.2 hk)
  · intro h i hi
    rw [List.all_eq_true]
    intro k hk
    simpa using h i k (List.mem_range.1 hi) (List.mem_range.1 hk)
theorem balB_no {n : Nat} {A : Nat → Nat → Int} {i k : Nat} (hi : i < n) (hk : k < i) (h : rp n A i k ≠ 0) : balB n A = false := by
  cases e : balB n A
  · rfl
  · exact (h (balB_iff.1 e i k hi hk)).elim
theorem rp_comm (n : Nat) (A : Nat → Nat → Int) (i k : Nat) : rp n A i k = rp n A k i := sm_congr fun _ _ => Int.mul_comm _ _
theorem had_of {n : Nat} {A : Nat → Nat → Int} (h1 : ∀ i j, i < n → j < n → Sg (A i j)) (h2 : balB n A = true) : Had n A := by
  refine ⟨h1, fun i j hi hj hn => ?_⟩
  rcases Nat.lt_or_gt_of_ne hn with h | h
  · exact (rp_comm n A i j).trans (balB_iff.1 h2 j i hj h)
  · exact balB_iff.1 h2 i j hi h
theorem Had.bal {n : Nat} {A : Nat → Nat → Int} (h : Had n A) : balB n A = true := balB_iff.2 fun i k hi hk => h.ort i k hi (by omega) (by omega)
theorem had_congr {n : Nat} {A B : Nat → Nat → Int} (e : ∀ i j, i < n → j < n → A i j = B i j) (h : Had n A) : Had n B :=
  ⟨fun i j hi hj => by rw [← e i j hi hj]; exact h.one i j hi hj, fun i j hi hj hn => by rw [← h.ort i j hi hj hn]; exact sm_congr fun k hk => by rw [e i k hi hk, e j k hj hk]⟩
theorem exc_congr {n : Nat} {A B : Nat → Nat → Int} (e : ∀ i j, i < n → j < n → A i j = B i j) : exc n A = exc n B := sm_congr fun i hi => sm_congr fun j hj => e i j hi hj
/-- What is wrong with a matrix. -/
def hF (s : Int) (L : List Int) : Nat := if s < 1 ∨ 24 < s then 1 else if (L.length : Int) ≠ s * s then 2 else if sgLB L = false then 1 else if balB s.toNat (mx s.toNat L) then 0 else 4
structure GoodH (n : Nat) (L : List Int) : Prop where
  pos : 0 < n
  le : n ≤ 24
  len : L.length = n * n
  had : Had n (mx n L)
theorem cell_ltH {m n i j : Nat} (hi : i < m) (hj : j < n) : i * n + j < m * n := by
  have : (i + 1) * n ≤ m * n := Nat.mul_le_mul_right n hi
  rw [Nat.add_mul] at this
  omega
theorem GoodH.at {n : Nat} {L : List Int} (h : GoodH n L) {k : Nat} (hk : k < n * n) : Sg (L.getD k 0) := by
  have := h.had.one (k / n) (k % n) (Nat.div_lt_of_lt_mul hk) (Nat.mod_lt _ h.pos)
  unfold mx at this
  rwa [Nat.div_add_mod' k n] at this
theorem hF_far {s : Int} {L : List Int} (h : s < 1 ∨ 24 < s) : hF s L = 1 := by unfold hF; rw [if_pos h]
theorem hF_shape {n : Nat} {L : List Int} (h1 : 1 ≤ n) (h8 : n ≤ 24) (h : L.length ≠ n * n) : hF n L = 2 := by
  unfold hF
  rw [if_neg (by omega), if_pos]
  intro e
  exact h (by exact_mod_cast e)
theorem hF_out {n : Nat} {L : List Int} {j : Nat} (h1 : 1 ≤ n) (h8 : n ≤ 24) (hl : L.length = n * n) (hj : j < n * n) (h : ¬ Sg (L.getD j 0)) : hF n L = 1 := by
  unfold hF
  rw [if_neg (by omega), if_neg (by rw [hl]; simp), if_pos]
  exact sgLB_no (by omega) h
theorem hF_on {n : Nat} {L : List Int} (h1 : 1 ≤ n) (h8 : n ≤ 24) (hl : L.length = n * n) (h : ∀ j, j < n * n → Sg (L.getD j 0)) : hF n L = if balB n (mx n L) then 0 else 4 := by
  unfold hF
  have hn : ((n : Int)).toNat = n := by omega
  rw [if_neg (by omega), if_neg (by rw [hl]; simp), if_neg (by rw [sgLB_iff.2 fun j hj => h j (by omega)]; simp), hn]
theorem hF_good {n : Nat} {L : List Int} (h : GoodH n L) : hF n L = 0 := by
  rw [hF_on h.pos h.le h.len fun j hj => h.at hj, h.had.bal]
  rfl
theorem hF_ok {s : Int} {L : List Int} (h : hF s L = 0) : ∃ n : Nat, s = n ∧ GoodH n L := by
  by_cases h1 : s < 1 ∨ 24 < s
  · rw [hF_far h1] at h; cases h
  · obtain ⟨n, rfl⟩ : ∃ n : Nat, s = n := ⟨s.toNat, by omega⟩
    refine ⟨n, rfl, ?_⟩
    by_cases hl : L.length = n * n
    · by_cases hs : ∀ j, j < n * n → Sg (L.getD j 0)
      · rw [hF_on (by omega) (by omega) hl hs] at h
        have hb : balB n (mx n L) = true := by
          cases e : balB n (mx n L)
          · rw [e] at h; cases h
          · rfl
        exact ⟨by omega, by omega, hl, had_of (fun i j hi hj => hs _ (cell_ltH hi hj)) hb⟩
      · exfalso
        have hs' : ∃ j, j < n * n ∧ ¬ Sg (L.getD j 0) := by
          apply Classical.byContradiction
          intro hc
          exact hs fun j hj => Classical.byContradiction fun hn => hc ⟨j, hj, hn⟩
        obtain ⟨j, hj, hn⟩ := hs'
        rw [hF_out (by omega) (by omega) hl hj hn] at h
        cases h
    · rw [hF_shape (by omega) (by omega) hl] at h; cases h
theorem hF_cases (s : Int) (L : List Int) : hF s L = 0 ∨ hF s L = 1 ∨ hF s L = 2 ∨ hF s L = 4 := by
  unfold hF
  repeat' split
  all_goals simp
/-- Filled row by row. -/
def flI (n : Nat) (t : Nat → Nat → Int) (k : Nat) : List Int := (List.range k).map fun k => t (k / n) (k % n)
@[simp] theorem flI_len (n : Nat) (t : Nat → Nat → Int) (k : Nat) : (flI n t k).length = k := by simp [flI]
theorem flI_at {n : Nat} {t : Nat → Nat → Int} {k m : Nat} (hk : k < m) : (flI n t m).getD k 0 = t (k / n) (k % n) := by simp [flI, hk]
theorem flI_succ {n : Nat} (t : Nat → Nat → Int) {r c : Nat} (hc : c < n) : flI n t (r * n + c + 1) = flI n t (r * n + c) ++ [t r c] := by
  unfold flI
  rw [List.range_succ]
  have := dm n (by omega) (a := r) hc
  simp [this.1, this.2]
theorem flI_mx {n : Nat} {t : Nat → Nat → Int} {i j : Nat} (hi : i < n) (hj : j < n) : mx n (flI n t (n * n)) i j = t i j := by
  unfold mx
  have := dm n (by omega) (a := i) hj
  rw [flI_at (cell_ltH hi hj), this.1, this.2]
theorem flI_good {n : Nat} {t : Nat → Nat → Int} (h1 : 0 < n) (h8 : n ≤ 24) (h : Had n t) : GoodH n (flI n t (n * n)) :=
  ⟨h1, h8, by simp, had_congr (fun i j hi hj => (flI_mx hi hj).symm) h⟩
theorem flI_congr {n : Nat} {s t : Nat → Nat → Int} (h : ∀ i j, i < n → j < n → s i j = t i j) : flI n s (n * n) = flI n t (n * n) := by
  unfold flI
  refine List.map_congr_left fun k hk => ?_
  have hk := List.mem_range.1 hk
  have hn : 0 < n := Nat.pos_of_ne_zero fun e => by subst e; simp at hk
  exact h _ _ (Nat.div_lt_of_lt_mul hk) (Nat.mod_lt _ hn)
theorem flI_self {n : Nat} {L : List Int} (hl : L.length = n * n) : flI n (mx n L) (n * n) = L := by
  apply List.ext_getElem (by simp [hl])
  intro k h1 h2
  have hk : k < n * n := by simpa using h1
  simp only [flI, List.getElem_map, List.getElem_range, mx, Nat.div_add_mod' k n]
  simp [List.getD_eq_getElem?_getD, h2]
/-- All cells together. -/
def smL (L : List Int) : Int := sm L.length fun j => L.getD j 0
theorem smL_exc {n : Nat} {L : List Int} (hl : L.length = n * n) : smL L = exc n (mx n L) := by
  unfold smL exc mx
  rw [hl, sm_split]
theorem sm_abs {f : Nat → Int} : ∀ {n : Nat}, (∀ i, i < n → Sg (f i)) → -(n : Int) ≤ sm n f ∧ sm n f ≤ n
  | 0, _ => by simp [sm]
  | n + 1, h => by
    have ih := sm_abs (n := n) fun i hi => h i (by omega)
    have := h n (by omega)
    rw [sm]
    rcases this with e | e <;> rw [e] <;> omega

/-- Sylvester's. -/
def syF (i j : Nat) : Int := if pc (i &&& j) % 2 = 0 then 1 else -1
theorem syF_sg (i j : Nat) : Sg (syF i j) := by unfold syF Sg; split <;> simp
theorem sy_bal : ∀ k : Fin 5, balB (2 ^ k.val) syF = true := by decide +kernel
theorem sy_had {k : Nat} (hk : k ≤ 4) : Had (2 ^ k) syF := had_of (fun i j _ _ => syF_sg i j) (sy_bal ⟨k, by omega⟩)
theorem sy_dbl : ∀ k : Fin 4, ∀ a : Fin (2 ^ k.val), ∀ b : Fin (2 ^ k.val), syF a.val (2 ^ k.val + b.val) = syF a.val b.val ∧ syF (2 ^ k.val + a.val) b.val = syF a.val b.val ∧ syF (2 ^ k.val + a.val) (2 ^ k.val + b.val) = - syF a.val b.val := by decide +kernel
/-- Paley's. -/
def paS (p : Nat) : List Nat := (List.range p).filter fun x => decide (1 ≤ x) && (List.range p).any fun y => decide (1 ≤ y) && (y * y % p == x)
def paF (p i j : Nat) : Int := if i = 0 ∨ i = j then 1 else if 0 < j ∧ (j + p - i) % p ∈ paS p then 1 else -1
theorem paF_sg (p i j : Nat) : Sg (paF p i j) := by unfold paF Sg; split <;> (try split) <;> simp
def paQ (p : Nat) : Bool := p == 3 || p == 7 || p == 11 || p == 19 || p == 23
theorem pa_bal : ∀ p : Fin 24, paQ p.val = true → balB (p.val + 1) (paF p.val) = true := by decide +kernel
theorem pa_had {p : Nat} (hp : paQ p = true) (h : p ≤ 23) : Had (p + 1) (paF p) := had_of (fun i j _ _ => paF_sg p i j) (pa_bal ⟨p, by omega⟩ hp)
end Go.Proofs.YtlmjlffipinjiabDoor.Hd

/- Tellers; the walks of asked, of balanced. -/
namespace Go.Proofs.YtlmjlffipinjiabDoor.Hd
open Go.RowKit

/-- The function tells the number in each place. -/
def TellAt (g : Nat) (lb : Array Value) (m n : Nat) (t : Nat → Nat → Int) (w : World) : Prop :=
  ∀ W : World, Below w.heap.size w W → ∀ r c : Nat, r < m → c < n → Calls Tryd.prog g (#[.int .i64 (r : Int), .int .i64 (c : Int)] ++ lb) W fun e w' => e = .returned (.int .i64 (t r c)) ∧ Below W.heap.size W w'
def Teller (v : Value) (m n : Nat) (t : Nat → Nat → Int) (w : World) : Prop :=
  ∃ g lb, v = .func (.func g) #[] lb ∧ (∀ args w, (callFunc g args).run Tryd.prog w = .ok (.enter g args) w) ∧ TellAt g lb m n t w
theorem Teller.below {v : Value} {m n : Nat} {t : Nat → Nat → Int} {w W : World} (h : Teller v m n t w) (hb : Below w.heap.size w W) : Teller v m n t W := by
  obtain ⟨g, lb, rfl, e, h⟩ := h
  exact ⟨g, lb, rfl, e, fun W' b r c hr hc => h W' (Below.next hb b) r c hr hc⟩

set_option maxRecDepth 100000 in
theorem e29 : ∀ args w, (callFunc 58 args).run Tryd.prog w = .ok (.enter 58 args) w := enters_of Tryd.func58 (by kernel_rfl) rfl
set_option maxRecDepth 100000 in
set_option maxHeartbeats 1000000 in
theorem asked1_any (n : Nat) (L : List Int) (v : Value) (w W : World) (b : Nat) (hv : Sl w v L) (hl : L.length = n * n) (hn : n ≤ 8 * 3)
    (hbx : w.heap[b]? = some (.cells #[.int .i64 (n : Int), v] 27 (0, 0))) (hB : Below w.heap.size w W) (r c : Nat) (hr : r < n) (hc : c < n) :
    Calls Tryd.prog 58 #[.int .i64 (r : Int), .int .i64 (c : Int), .pointer (some ⟨b, 0, none⟩)] W fun e w' => e = .returned (.int .i64 (mx n L r c)) ∧ Below W.heap.size W w' := by
  have hlt := cell_ltH hr hc
  obtain ⟨a, off, cap, rfl, ha, hcell⟩ := (hv.below hB).form hl (by omega)
  have hbl : b < w.heap.size := (Array.getElem?_eq_some_iff.1 hbx).1
  have hbx' := (hB.block b hbl).trans hbx
  have h1 : W.cell? ⟨b, 0, none⟩ = some (.int .i64 (n : Int)) := by rw [cell_of_row _ _ _ _ _ _ hbx']; rfl
  have h2 : W.cell? ⟨b, 1, none⟩ = some (.slice (some ⟨a, off, none⟩) (n * n) cap) := by rw [cell_of_row _ _ _ _ _ _ hbx']; rfl
  have h3 := hcell _ hlt
  have h4 : L.getD (r * n + c) 0 = mx n L r c := rfl
  rw [h4] at h3
  have hmn : n * n ≤ 999 := Nat.le_trans (Nat.mul_le_mul hn hn) (by decide)
  have hrn : r * n ≤ 999 := by omega
  obtain ⟨q, hq⟩ : ∃ q, q = r * n := ⟨_, rfl⟩
  obtain ⟨k, hk⟩ : ∃ k, k = q + c := ⟨_, rfl⟩
  have hmul : (r : Int) * (n : Int) = (q : Int) := by rw [hq]; simp
  have hadd : (q : Int) + (c : Int) = (k : Int) := by rw [hk]; simp
  rw [← hq, ← hk] at h3 hlt
  have hq99 : q ≤ 999 := by omega
  have hk99 : k ≤ 999 := by omega
  have hkz : (k : Int) < ((n * n : Nat) : Int) := by omega
  generalize mx n L r c = x at *
  generalize n * n = z at *
  clear hcell hbx hbx' hv h4 hq hk hrn
  go_enter Tryd.func58, Tryd.ntmps58
  go_wp2
  go_ret
  exact ⟨rfl, Below.refl _ _⟩
set_option maxRecDepth 100000 in
set_option maxHeartbeats 1000000 in
theorem asked_any (n : Nat) (L : List Int) (v : Value) (w : World) (hv : Sl w v L) (hl : L.length = n * n) (hn : n ≤ 8 * 3) :
    Calls Tryd.prog 26 #[.agg #[.int .i64 (n : Int), v]] w fun e w' => (∃ y, e = .returned y ∧ Teller y n n (mx n L) w') ∧ Below w.heap.size w w' := by
  go_enter Tryd.func26, Tryd.ntmps26
  go_wp2
  go_ret
  have hb := balloc w (.cells #[.int .i64 (n : Int), v] 27)
  refine ⟨⟨_, rfl, _, _, rfl, e29, fun W b r c hr hc => ?_⟩, hb⟩
  exact asked1_any n L v _ W w.heap.size (hv.below hb) hl hn (heap_alloc_new w _) b r c hr hc

theorem sg_prod {a b : Int} (ha : Sg a) (hb : Sg b) : a * b = 1 ∨ a * b = -1 := ha.mul hb
set_option maxRecDepth 100000 in
set_option maxHeartbeats 4000000 in
theorem balanced_any (n : Nat) (t : Nat → Nat → Int) (v : Value) (w : World) (b : Bool) (hn : n ≤ 8 * 3) (ht : ∀ r c, r < n → c < n → Sg (t r c)) (hT : Teller v n n t w) (hb : balB n t = b) :
    Calls Tryd.prog 55 #[.int .i64 (n : Int), v] w fun e w' => e = .returned (.bool b) ∧ Below w.heap.size w w' := by
  obtain ⟨g, lb, rfl, eg, hT⟩ := hT
  have HT : Hid (TellAt g lb n n t w) := hT
  have HB : Hid (balB n t = b) := hb
  have HX : Hid (∀ r c, r < n → c < n → Sg (t r c)) := ht
  clear hT hb ht
  go_enter Tryd.func55, Tryd.ntmps55
  go_wp2
  go_loopw [10] (fun i wr => ∃ (r : Nat), i = .int .i64 (r : Int) ∧ r ≤ n ∧ Hid (∀ i k, i < r → k < i → rp n t i k = 0) ∧ Below w.heap.size w wr) (fun i _ => (n - intOf i).toNat)
  case atStart => exact ⟨0, rfl, by omega, (fun i k h => by omega : ∀ i k, i < 0 → k < i → rp n t i k = 0), Below.refl _ _⟩
  case round =>
    obtain ⟨r, rfl, hr, HR, hB⟩ := hrel
    by_cases hlt : r < n
    · have hdr : decide ((r : Int) < (n : Int)) = true := by simp; omega
      go_wp2
      go_loopw [14] (fun i wr => ∃ (q : Nat), i = .int .i64 (q : Int) ∧ q ≤ r ∧ Hid (∀ k, k < q → rp n t r k = 0) ∧ Below w.heap.size w wr) (fun i _ => (r - intOf i).toNat)
      case atStart => exact ⟨0, rfl, by omega, (fun k h => by omega : ∀ k, k < 0 → rp n t r k = 0), hB⟩
      case round =>
        clear hB
        obtain ⟨q, rfl, hq, HQ, hB⟩ := hrel
        by_cases hlq : q < r
        · have hdq : decide ((q : Int) < (r : Int)) = true := by simp; omega
          go_wp2
          go_loopw [7, 18] (fun o i wr => ∃ (c : Nat) (X : Int), i = .int .i64 (c : Int) ∧ c ≤ n ∧ o = .int .i64 X ∧ Hid ((sm c fun j => t r j * t q j) = X) ∧ -(c : Int) ≤ X ∧ X ≤ c ∧ Below w.heap.size w wr) (fun _ i _ => (n - intOf i).toNat)
          case atStart => exact ⟨0, 0, rfl, by omega, rfl, (rfl : (sm 0 fun j => t r j * t q j) = 0), by omega, by omega, hB⟩
          case round =>
            clear hB
            obtain ⟨c, X, rfl, hc, rfl, HS, hX1, hX2, hB⟩ := hrel
            by_cases hlc : c < n
            · have hdc : decide ((c : Int) < (n : Int)) = true := by simp; omega
              have hqn : q < n := by omega
              have C1 := HT.out _ hB r c hlt hlc
              have C2 := fun W (b : Below w.heap.size w W) => HT.out W b q c hqn hlc
              have hp := sg_prod (HX.out r c hlt hlc) (HX.out q c hqn hlc)
              have HS2 : Hid ((sm (c + 1) fun j => t r j * t q j) = X + t r c * t q c) := by show _ = _; rw [sm, HS.out]
              obtain ⟨x, Hx⟩ : ∃ x, Hid (t r c = x) := ⟨_, rfl⟩
              obtain ⟨y, Hy⟩ : ∃ y, Hid (t q c = y) := ⟨_, rfl⟩
              rw [Hx.out] at C1 hp HS2
              rw [Hy.out] at C2 hp HS2
              obtain ⟨z, Hz⟩ : ∃ z, Hid (x * y = z) := ⟨_, rfl⟩
              have hz := Hz.out
              rw [hz] at hp HS2
              have hz1 : -1 ≤ z ∧ z ≤ 1 := by omega
              obtain ⟨hz2, hz3⟩ := hz1
              clear hp HS
              go_wp2_with (first
                | (go_at_fn g; refine C1.mono ?_; rintro e w3 ⟨rfl, b3⟩; clear C1; have D2 := C2 _ (Below.next hB b3); clear C2)
                | (go_at_fn g; refine D2.mono ?_; rintro e w4 ⟨rfl, b4⟩; clear D2))
              go_roundw
              case rel => exact ⟨c + 1, X + z, by go_num, by omega, by go_num, HS2, by omega, by omega, Below.next (Below.next hB b3) b4⟩
              case measure => simp [intOf]; omega
            · have hdc : decide ((c : Int) < (n : Int)) = false := by simp; omega
              obtain rfl : c = n := by omega
              by_cases hX0 : X = 0
              · have hXn : (X != 0) = false := by simp [hX0]
                have HQ2 : Hid (∀ k, k < q + 1 → rp c t r k = 0) := fun k hk => by
                  by_cases e : k = q
                  · subst e; exact HS.out.trans hX0
                  · exact HQ.out k (by omega)
                clear hX0
                go_wp2
                go_roundw
                case rel => exact ⟨q + 1, by go_num, by omega, HQ2, hB⟩
                case measure => simp [intOf]; omega
              · have hXn : (X != 0) = true := by simp [hX0]
                obtain rfl : b = false := HB.out.symm.trans (balB_no hlt hlq (by unfold rp; rw [HS.out]; exact hX0))
                go_wp2
                go_ret
                exact ⟨rfl, hB⟩
        · have hdq : decide ((q : Int) < (r : Int)) = false := by simp; omega
          obtain rfl : q = r := by omega
          have HR2 : Hid (∀ i k, i < q + 1 → k < i → rp n t i k = 0) := fun i k hi hk => by
            by_cases e : i = q
            · subst e; exact HQ.out k hk
            · exact HR.out i k (by omega) hk
          go_wp2
          go_roundw
          case rel => exact ⟨q + 1, by go_num, by omega, HR2, hB⟩
          case measure => simp [intOf]; omega
    · have hdr : decide ((r : Int) < (n : Int)) = false := by simp; omega
      obtain rfl : r = n := by omega
      obtain rfl : b = true := HB.out.symm.trans (balB_iff.2 HR.out)
      go_wp2
      go_ret
      exact ⟨rfl, hB⟩
end Go.Proofs.YtlmjlffipinjiabDoor.Hd

namespace Go.Proofs.YtlmjlffipinjiabDoor.Hd
open Go.RowKit

set_option maxRecDepth 100000 in
theorem und24r : ∃ d, Tryd.prog.underlying 27 = some d ∧ d.isRow = true := ⟨_, Tryd.underlying27, rfl⟩
set_option maxRecDepth 100000 in
theorem inf24 : (Tryd.prog.info? 27).map (·.size) = some 2 := by kernel_rfl
theorem range_two (w : World) (b : Nat) (x y : Value) (h0 : w.cell? ⟨b, 0, none⟩ = some x) (h1 : w.cell? ⟨b, 1, none⟩ = some y) : w.rangeAt b 0 [x, y] := by
  intro j v hj
  match j, hj with
  | 0, hj => simp only [List.getElem?_cons_zero, Option.some.injEq] at hj; subst hj; exact h0
  | 1, hj => simp only [List.getElem?_cons_succ, List.getElem?_cons_zero, Option.some.injEq] at hj; subst hj; exact h1
  | j + 2, hj => simp at hj

set_option maxRecDepth 100000 in
set_option maxHeartbeats 4000000 in
theorem Check_far (s : Int) (v : Value) (w : World) (h : s < 1 ∨ 8 * 3 < s) :
    Calls Tryd.prog 23 #[.agg #[.int .i64 s, v]] w fun e w' => e = .returned (.int .i64 1) ∧ Below w.heap.size w w' := by
  by_cases h1 : s < 1
  · have d1 : decide (s < 1) = true := decide_eq_true h1
    clear h h1
    go_enter Tryd.func23, Tryd.ntmps23
    go_wp2
    go_ret
    exact ⟨rfl, balloc w _⟩
  · have d1 : decide (s < 1) = false := decide_eq_false h1
    have h2 : 24 < s := by omega
    have d2 : decide (24 < s) = true := decide_eq_true h2
    clear h h1 h2
    go_enter Tryd.func23, Tryd.ntmps23
    go_wp2
    go_ret
    exact ⟨rfl, balloc w _⟩
set_option maxRecDepth 100000 in
set_option maxHeartbeats 4000000 in
theorem Check_shape (n : Nat) (L : List Int) (v : Value) (w : World) (h1 : 1 ≤ n) (h8 : n ≤ 8 * 3) (hv : Sl w v L) (_hll : L.length ≤ maxLen) (hl : L.length ≠ n * n) :
    Calls Tryd.prog 23 #[.agg #[.int .i64 (n : Int), v]] w fun e w' => e = .returned (.int .i64 2) ∧ Below w.heap.size w w' := by
  have d1 : decide ((n : Int) < 1) = false := by simp; omega
  have d2 : decide (24 < (n : Int)) = false := by simp; omega
  obtain ⟨a, cap, rfl, _⟩ := hv
  obtain ⟨z, hz⟩ : ∃ z, z = n * n := ⟨_, rfl⟩
  have hz99 : z ≤ 999 := by rw [hz]; exact Nat.le_trans (Nat.mul_le_mul h8 h8) (by decide)
  have hmul : (n : Int) * (n : Int) = (z : Int) := by rw [hz]; simp
  have hne : ((L.length : Int) != (z : Int)) = true := by simp; omega
  generalize L.length = q at *
  clear hz hl
  go_enter Tryd.func23, Tryd.ntmps23
  go_wp2
  go_ret
  exact ⟨rfl, balloc w _⟩
set_option maxRecDepth 100000 in
set_option maxHeartbeats 8000000 in
theorem Check_main (n : Nat) (L : List Int) (v : Value) (w : World) (h1 : 1 ≤ n) (h8 : n ≤ 8 * 3) (hv : Sl w v L) (hl : L.length = n * n) :
    Calls Tryd.prog 23 #[.agg #[.int .i64 (n : Int), v]] w fun e w' => e = .returned (.int .i64 (hF n L : Int)) ∧ Below w.heap.size w w' := by
  have d1 : decide ((n : Int) < 1) = false := by simp; omega
  have d2 : decide (24 < (n : Int)) = false := by simp; omega
  have hpos : 0 < n * n := Nat.mul_pos h1 h1
  have HV : Hid (Sl w v L) := hv
  obtain ⟨a, off, cap, rfl, ha, hcell⟩ := hv.form hl hpos
  obtain ⟨u, hu⟩ : ∃ u, u = hF n L := ⟨_, rfl⟩
  have HU : Hid (u = hF n L) := hu
  rw [← hu]
  obtain ⟨z, hz⟩ : ∃ z, z = n * n := ⟨_, rfl⟩
  have hz99 : z ≤ 999 := by rw [hz]; exact Nat.le_trans (Nat.mul_le_mul h8 h8) (by decide)
  have hmul : (n : Int) * (n : Int) = (z : Int) := by rw [hz]; simp
  have hne : ((z : Int) != (z : Int)) = false := by simp
  have HL : Hid (L.length = n * n) := hl
  have HZ : Hid (z = n * n) := hz
  have HC : Hid (∀ j, j < z → w.cell? ⟨a, off + j, none⟩ = some (.int .i64 (L.getD j 0))) := by rw [hz]; exact hcell
  rw [← hz] at HV ⊢
  have b0 := balloc w (.cells #[.int .i64 (n : Int), .slice (some ⟨a, off, none⟩) z cap] 27)
  have hx0 : (w.alloc (.cells #[.int .i64 (n : Int), .slice (some ⟨a, off, none⟩) z cap] 27)).cell? ⟨w.heap.size, 0, none⟩ = some (.int .i64 (n : Int)) := by rw [cell_of_row _ _ _ _ _ _ (heap_alloc_new w _)]; rfl
  have hx1 : (w.alloc (.cells #[.int .i64 (n : Int), .slice (some ⟨a, off, none⟩) z cap] 27)).cell? ⟨w.heap.size, 1, none⟩ = some (.slice (some ⟨a, off, none⟩) z cap) := by rw [cell_of_row _ _ _ _ _ _ (heap_alloc_new w _)]; rfl
  have hsz : w.heap.size < (w.alloc (.cells #[.int .i64 (n : Int), .slice (some ⟨a, off, none⟩) z cap] 27)).heap.size := by simp
  clear hcell hl hz hu
  go_enter Tryd.func23, Tryd.ntmps23
  go_wp2
  go_loopw [25] (fun i wr => ∃ j : Nat, i = .int .i64 (j : Int) ∧ j ≤ z ∧ Hid (∀ q, q < j → Sg (L.getD q 0)) ∧ wr.cell? ⟨w.heap.size, 0, none⟩ = some (.int .i64 (n : Int)) ∧ wr.cell? ⟨w.heap.size, 1, none⟩ = some (.slice (some ⟨a, off, none⟩) z cap) ∧ w.heap.size < wr.heap.size ∧ Below w.heap.size w wr) (fun i _ => (z - intOf i).toNat)
  case atStart => exact ⟨0, rfl, by omega, (fun q h => by omega : ∀ q, q < 0 → _), hx0, hx1, hsz, b0⟩
  case round =>
    clear hx0 hx1 b0 hsz
    obtain ⟨j, rfl, hj, HJ, hx0, hx1, hsz, b0⟩ := hrel
    by_cases hlt : j < z
    · have hdj : decide ((j : Int) < (z : Int)) = true := by simp; omega
      have hji : (j : Int) < z := by omega
      have hj0 : (0 : Int) ≤ (j : Int) := by omega
      have hcj := (b0.cell (p := ⟨a, off + j, none⟩) ha).trans (HC.out j hlt)
      obtain ⟨x, hx⟩ : ∃ x, x = L.getD j 0 := ⟨_, rfl⟩
      rw [← hx] at hcj
      have HJ2 : Hid (Sg x → ∀ q, q < j + 1 → Sg (L.getD q 0)) := fun h q hq => by
        by_cases e : q = j
        · subst e; rw [← hx]; exact h
        · exact HJ.out q (by omega)
      have HN : Hid (¬ Sg x → u = 1) := fun h => by rw [HU.out]; exact hF_out h1 h8 HL.out (by rw [← HZ.out]; exact hlt) (by rw [← hx]; exact h)
      clear hx HJ
      by_cases hx1' : x = 1
      · have HJ3 : Hid (∀ q, q < j + 1 → Sg (L.getD q 0)) := HJ2.out (.inl hx1')
        have hxn : (x != 1) = false := by simp [hx1']
        clear hx1' HN HJ2
        go_wp2
        go_roundw
        case rel => exact ⟨j + 1, by go_num, by omega, HJ3, hx0, hx1, hsz, b0⟩
        case measure => simp [intOf]; omega
      · have hxn : (x != 1) = true := by simp [hx1']
        by_cases hx2 : x = -1
        · have HJ3 : Hid (∀ q, q < j + 1 → Sg (L.getD q 0)) := HJ2.out (.inr hx2)
          have hxm : (x != -1) = false := by simp [hx2]
          clear hx2 hx1' HN HJ2
          go_wp2
          go_roundw
          case rel => exact ⟨j + 1, by go_num, by omega, HJ3, hx0, hx1, hsz, b0⟩
          case measure => simp [intOf]; omega
        · have hxm : (x != -1) = true := by simp [hx2]
          obtain rfl : u = 1 := HN.out (fun h => by rcases h with h | h; exact hx1' h; exact hx2 h)
          clear hx2 hx1' HN HJ2
          go_wp2
          go_ret
          exact ⟨rfl, b0⟩
    · have hdj : decide ((j : Int) < (z : Int)) = false := by simp; omega
      obtain rfl : j = z := by omega
      have hon := hF_on h1 h8 HL.out (by rw [← HZ.out]; exact HJ.out)
      rw [← HU.out] at hon
      have A1 := fun W (b : Below w.heap.size w W) => asked_any n L _ W (HV.out.below b) HL.out h8
      have A2 := fun y W (hT : Teller y n n (mx n L) W) => balanced_any n (mx n L) y W (balB n (mx n L)) h8 (fun r c hr hc => HJ.out _ (by rw [HZ.out]; exact cell_ltH hr hc)) hT rfl
      have HON : Hid (u = if balB n (mx n L) then 0 else 4) := hon
      have HS : Hid (w.heap.size < wr.heap.size) := hsz
      have hrg := range_two wr w.heap.size _ _ hx0 hx1
      generalize balB n (mx n L) = o at *
      clear hon HJ HU
      go_wp2_with fail
      refine wp_region_noPanic ?_
      refine wp_region_held_drew (S := fun w' => w'.cell? ⟨w.heap.size, 0, none⟩ = some (.int .i64 (n : Int)) ∧ w'.rangeAt w.heap.size 0 [.int .i64 (n : Int), .slice (some ⟨a, off, none⟩) j cap]) (by kernel_rfl) (⟨hx0, hrg⟩) (fun hSx => ?_)
      refine wpAnyH_take (i := 0) (v := .pointer (some ⟨w.heap.size, 0, none⟩)) rfl (by kernel_rfl) (by kernel_rfl) (by kernel_rfl) (fun _ _ _ h => h) (Or.inl ⟨by rfl, fun w' hSw => by (try dsimp only at hSw); go_simp⟩) hSx ?_
      try simp only [Act.put, List.setIfInBounds_toArray]
      refine wpAnyH_take (i := 1) (v := .int .i64 (n : Int)) rfl (by kernel_rfl) (by kernel_rfl) (by kernel_rfl) (fun _ _ _ h => h) (Or.inl ⟨by rfl, fun w' hSw => by (try dsimp only at hSw); have hSw1 := hSw.1; go_simp⟩) hSx ?_
      try simp only [Act.put]
      refine wpAnyH_take (i := 2) (v := .agg #[.int .i64 (n : Int), .slice (some ⟨a, off, none⟩) j cap]) rfl (by kernel_rfl) (by kernel_rfl) (by kernel_rfl) (fun _ _ _ h => h) (yieldsIf_load_mid (by rfl) 27 _ rfl w.heap.size 0 rfl [.int .i64 (n : Int), .slice (some ⟨a, off, none⟩) j cap] _ (fun _ h => h.2) Tryd.underlying27 rfl inf24) hSx ?_
      try simp only [Act.put]
      refine wpAnyH_ready (rs := [3]) (by kernel_rfl) (by simp) ?_
      refine AllReadyH.cons rfl (fun J hJ => ?_) AllReadyH.nil
      go_simp
      refine (A1 _ b0.drew).mono ?_
      rintro e w5 ⟨⟨y, rfl, hT⟩, b5⟩
      have hS5 : w5.cell? ⟨w.heap.size, 0, none⟩ = some (.int .i64 (n : Int)) ∧ w5.rangeAt w.heap.size 0 [.int .i64 (n : Int), .slice (some ⟨a, off, none⟩) j cap] := by
        have k : ∀ o, w5.cell? ⟨w.heap.size, o, none⟩ = wr.cell? ⟨w.heap.size, o, none⟩ := fun o => b5.cell (p := ⟨w.heap.size, o, none⟩) HS.out
        exact ⟨(k 0).trans hx0, range_two w5 _ _ _ ((k 0).trans hx0) ((k 1).trans hx1)⟩
      have b15 := Below.next b0.drew b5
      go_wp2_with fail
      refine hJ.out _ _ hS5 (fun hSy => ?_)
      clear hJ J
      try simp only [Act.put, List.setIfInBounds_toArray, List.set_cons_zero, List.set_cons_succ]
      refine wpAnyH_ready (rs := [4]) (by kernel_rfl) (by simp) ?_
      refine AllReadyH.cons rfl (fun J hJ => ?_) AllReadyH.nil
      go_simp
      refine (A2 y w5 hT).mono ?_
      rintro e w6 ⟨rfl, b6⟩
      have hS6 : w6.cell? ⟨w.heap.size, 0, none⟩ = some (.int .i64 (n : Int)) ∧ w6.rangeAt w.heap.size 0 [.int .i64 (n : Int), .slice (some ⟨a, off, none⟩) j cap] := by
        have k : ∀ o, w6.cell? ⟨w.heap.size, o, none⟩ = w5.cell? ⟨w.heap.size, o, none⟩ := fun o => b6.cell (p := ⟨w.heap.size, o, none⟩) (Nat.lt_of_lt_of_le HS.out b5.size)
        have k2 : ∀ o, w5.cell? ⟨w.heap.size, o, none⟩ = wr.cell? ⟨w.heap.size, o, none⟩ := fun o => b5.cell (p := ⟨w.heap.size, o, none⟩) HS.out
        exact ⟨(k 0).trans ((k2 0).trans hx0), range_two w6 _ _ _ ((k 0).trans ((k2 0).trans hx0)) ((k 1).trans ((k2 1).trans hx1))⟩
      have b16 := Below.next b15 b6
      go_wp2_with fail
      refine hJ.out _ _ hS6 (fun hSz => ?_)
      clear hJ J
      try simp only [Act.put, List.setIfInBounds_toArray, List.set_cons_zero, List.set_cons_succ]
      refine wpAnyH_take (i := 5) (v := .bool (!o)) rfl (by kernel_rfl) (by kernel_rfl) (by kernel_rfl) (fun _ _ _ h => h) (Or.inl ⟨by rfl, fun w' hSw => by (try dsimp only at hSw); go_simp⟩) hSz ?_
      try simp only [Act.put, List.setIfInBounds_toArray]
      refine wpAnyH_done (by kernel_rfl) ?_ _
      refine NoPanic.normal ?_
      clear hSx hSy hSz hS5 hS6 hx0 hx1 hrg A1 A2
      cases o with
      | true =>
        have hu0 : u = 0 := HON.out
        subst hu0
        go_wp2
        go_ret
        exact ⟨rfl, b16⟩
      | false =>
        have hu0 : u = 4 := HON.out
        subst hu0
        go_wp2
        go_ret
        exact ⟨rfl, b16⟩
theorem Check_any (s : Int) (L : List Int) (v : Value) (w : World) (hv : Sl w v L) (hll : L.length ≤ maxLen) :
    Calls Tryd.prog 23 #[.agg #[.int .i64 s, v]] w fun e w' => e = .returned (.int .i64 (hF s L : Int)) ∧ Below w.heap.size w w' := by
  by_cases h : s < 1 ∨ 8 * 3 < s
  · rw [hF_far h]; exact Check_far s v w h
  · obtain ⟨n, rfl⟩ : ∃ n : Nat, s = n := ⟨s.toNat, by omega⟩
    by_cases hl : L.length = n * n
    · exact Check_main n L v w (by omega) (by omega) hv hl
    · rw [hF_shape (by omega) (by omega) hl]; exact Check_shape n L v w (by omega) (by omega) hv hll hl

end Go.Proofs.YtlmjlffipinjiabDoor.Hd
