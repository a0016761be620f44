/- Rao's bound, counted. Nothing of the program. -/
import Derived.RowKit
import Derived.Test.YtjfjdidibglhaabDoorArP
/- Runs of a strength: sums of products over their columns. Nothing of the program. -/
/- Lists that are orthogonal to each other are no more than their length. Nothing of the program. -/
/- Sums of integers. Nothing of the program. -/
namespace Go.Proofs.YtjfjdidibglhaabDoor

/-- A number as an element. -/
def nR : Nat → Int
  | 0 => 0
  | n + 1 => nR n + 1
/-- A sum of n elements. -/
def sR : Nat → (Nat → Int) → Int
  | 0, _ => 0
  | n + 1, f => sR n f + f n
theorem sR_congr {f g : Nat → Int} : ∀ {n : Nat}, (∀ i, i < n → f i = g i) → sR n f = sR n g
  | 0, _ => rfl
  | n + 1, h => by rw [sR, sR, sR_congr fun i hi => h i (by omega), h n (by omega)]
theorem sR_nil : ∀ n, sR n (fun _ => (0 : Int)) = 0
  | 0 => rfl
  | n + 1 => by rw [sR, sR_nil n]; grind
theorem sR_add (f g : Nat → Int) : ∀ n, sR n (fun i => f i + g i) = sR n f + sR n g
  | 0 => by simp only [sR]; grind
  | n + 1 => by rw [sR, sR, sR, sR_add f g n]; grind
theorem sR_mul (c : Int) (f : Nat → Int) : ∀ n, sR n (fun i => c * f i) = c * sR n f
  | 0 => by simp only [sR]; grind
  | n + 1 => by rw [sR, sR, sR_mul c f n]; grind
theorem sR_two (x1 x2 : Int) (f1 f2 : Nat → Int) (n : Nat) : sR n (fun h => x1 * f1 h + x2 * f2 h) = x1 * sR n f1 + x2 * sR n f2 := by
  rw [sR_add (fun h => x1 * f1 h), sR_mul, sR_mul]
def idR (a b : Nat) : Int := if a = b then 1 else 0
theorem sR_id (F : Nat → Int) (a : Nat) : ∀ n, sR n (fun h => idR a h * F h) = if a < n then F a else 0
  | 0 => by simp [sR]
  | n + 1 => by
    rw [sR, sR_id F a n]
    unfold idR
    by_cases h : a = n
    · subst h
      rw [if_neg (by omega), if_pos rfl, if_pos (by omega)]
      grind
    · rw [if_neg h]
      by_cases h2 : a < n
      · rw [if_pos h2, if_pos (by omega)]; grind
      · rw [if_neg h2, if_neg (by omega)]; grind
theorem sR_one : ∀ n, sR n (fun _ => (1 : Int)) = nR n
  | 0 => rfl
  | n + 1 => by rw [sR, sR_one n, nR]
theorem sR_three (x1 x2 x3 : Int) (f1 f2 f3 : Nat → Int) (n : Nat) : sR n (fun h => x1 * f1 h + x2 * f2 h + x3 * f3 h) = x1 * sR n f1 + x2 * sR n f2 + x3 * sR n f3 := by
  rw [sR_add (fun h => x1 * f1 h + x2 * f2 h), sR_two, sR_mul]
theorem sR_nonneg {f : Nat → Int} : ∀ {n : Nat}, (∀ i, i < n → 0 ≤ f i) → 0 ≤ sR n f
  | 0, _ => Int.le_refl _
  | n + 1, h => by
    have h1 := sR_nonneg (n := n) fun i hi => h i (by omega)
    have h2 := h n (by omega)
    rw [sR]; omega
theorem sR_mono {f g : Nat → Int} : ∀ {n : Nat}, (∀ i, i < n → f i ≤ g i) → sR n f ≤ sR n g
  | 0, _ => Int.le_refl _
  | n + 1, h => by
    have h1 := sR_mono (n := n) fun i hi => h i (by omega)
    have h2 := h n (by omega)
    rw [sR, sR]; omega
theorem nR_int : ∀ n : Nat, (nR n : Int) = n
  | 0 => rfl
  | n + 1 => by rw [nR, nR_int n]; simp
theorem sR_int (c : Int) (n : Nat) : sR n (fun _ => c) = n * c := by
  have e : sR n (fun _ => c) = sR n (fun _ => c * 1) := sR_congr fun _ _ => by omega
  rw [e, sR_mul, sR_one, nR_int, Int.mul_comm]
theorem sR_swap (f : Nat → Nat → Int) (m : Nat) : ∀ n, sR n (fun i => sR m (fun j => f i j)) = sR m (fun j => sR n (fun i => f i j))
  | 0 => by simp only [sR]; rw [sR_nil]
  | n + 1 => by
    rw [sR, sR_swap f m n, ← sR_add]
    exact sR_congr fun j _ => rfl
theorem id_self (a : Nat) : (idR a a : Int) = 1 := if_pos rfl
theorem sq_nn (x : Int) : 0 ≤ x * x := by
  rcases (show 0 ≤ x ∨ x ≤ 0 by omega) with h | h
  · exact Int.mul_nonneg h h
  · exact Int.mul_nonneg_of_nonpos_of_nonpos h h
end Go.Proofs.YtjfjdidibglhaabDoor

namespace Go.Proofs.YtjfjdidibglhaabDoor
theorem sR_mulr (f : Nat → Int) (c : Int) (n : Nat) : sR n (fun i => f i * c) = sR n f * c := by
  rw [Int.mul_comm, ← sR_mul]
  exact sR_congr fun i _ => Int.mul_comm _ _
theorem sR_prod (f g : Nat → Int) (n m : Nat) : sR n f * sR m g = sR n fun i => sR m fun j => f i * g j := by
  rw [← sR_mulr]
  exact sR_congr fun i _ => (sR_mul _ _ _).symm
/-- Bessel: at each place. -/
theorem bessel {N M : Nat} {x : Nat → Nat → Int} {w e : Nat → Int} {c : Int} (hc : 0 < c) (he : ∀ i, i < M → e i * w i = c)
    (ho : ∀ i j, i < M → j < M → sR N (fun a => x i a * x j a) = idR i j * w i) {a : Nat} (ha : a < N) : sR M (fun i => e i * (x i a * x i a)) ≤ c := by
  obtain ⟨g, hg⟩ : ∃ g : Nat → Int, ∀ i, g i = e i * x i a := ⟨fun i => e i * x i a, fun _ => rfl⟩
  obtain ⟨T, hT⟩ : ∃ T, sR M (fun i => e i * (x i a * x i a)) = T := ⟨_, rfl⟩
  have h0 : 0 ≤ sR N fun b => (c * idR a b - sR M fun i => g i * x i b) * (c * idR a b - sR M fun i => g i * x i b) := sR_nonneg fun b _ => sq_nn _
  have e1 : (sR N fun b => (sR M fun i => g i * x i b) * (sR M fun i => g i * x i b)) = c * T := by
    have s1 : (sR N fun b => (sR M fun i => g i * x i b) * (sR M fun i => g i * x i b)) = sR N fun b => sR M fun i => sR M fun j => (g i * g j) * (x i b * x j b) := sR_congr fun b _ => by
      rw [sR_prod]
      exact sR_congr fun i _ => sR_congr fun j _ => by grind
    have s2 : (sR M fun i => sR N fun b => sR M fun j => (g i * g j) * (x i b * x j b)) = sR M fun i => c * (e i * (x i a * x i a)) := sR_congr fun i hi => by
      rw [sR_swap]
      have s3 : (sR M fun j => sR N fun b => (g i * g j) * (x i b * x j b)) = sR M fun j => idR i j * (g i * g j * w i) := sR_congr fun j hj => by
        rw [sR_mul, ho i j hi hj]
        grind
      rw [s3, sR_id (fun j => g i * g j * w i) i M, if_pos hi, hg i]
      have := he i hi
      grind
    rw [s1, sR_swap, s2, sR_mul, hT]
  have e2 : (sR N fun b => idR a b * sR M fun i => g i * x i b) = T := by
    rw [sR_id (fun b => sR M fun i => g i * x i b) a N, if_pos ha, ← hT]
    exact sR_congr fun i _ => by rw [hg i]; grind
  have e3 : (sR N fun b => (c * idR a b - sR M fun i => g i * x i b) * (c * idR a b - sR M fun i => g i * x i b)) = sR N fun b => c * c * (idR a b * idR a b) + (-2 * c) * (idR a b * sR M fun i => g i * x i b) + 1 * ((sR M fun i => g i * x i b) * (sR M fun i => g i * x i b)) := sR_congr fun b _ => by
    generalize (idR a b : Int) = p
    generalize (sR M fun i => g i * x i b) = q
    grind
  rw [e3, sR_three, e1, e2, sR_id (fun b => idR a b) a N, if_pos ha, id_self] at h0
  rw [hT]
  have h1 : 0 ≤ c * (c - T) := by
    have : c * (c - T) = c * c * 1 + -2 * c * T + 1 * (c * T) := by grind
    rw [this]
    exact h0
  rcases (show c < T ∨ T ≤ c by omega) with k | k
  · exfalso
    have := Int.mul_pos hc (show 0 < T - c by omega)
    have e : c * (T - c) = - (c * (c - T)) := by grind
    omega
  · exact k
theorem orth_le {N M : Nat} {x : Nat → Nat → Int} {w e : Nat → Int} {c : Int} (hc : 0 < c) (he : ∀ i, i < M → e i * w i = c)
    (ho : ∀ i j, i < M → j < M → sR N (fun a => x i a * x j a) = idR i j * w i) : M ≤ N := by
  have h1 : (sR N fun a => sR M fun i => e i * (x i a * x i a)) ≤ sR N fun _ => c := sR_mono fun a ha => bessel hc he ho ha
  have h2 : (sR N fun a => sR M fun i => e i * (x i a * x i a)) = sR M fun _ => c := by
    rw [sR_swap]
    exact sR_congr fun i hi => by
      rw [sR_mul, ho i i hi hi, id_self, Int.one_mul, he i hi]
  rw [h2, sR_int, sR_int] at h1
  have := Int.le_of_mul_le_mul_right h1 hc
  omega
end Go.Proofs.YtjfjdidibglhaabDoor

/- Contrasts of s levels (Helmert's): orthogonal to each other. Nothing of the program. -/
namespace Go.Proofs.YtjfjdidibglhaabDoor
/-- 1 everywhere; or 1 below a, -a at a, and 0. -/
def heG (a x : Nat) : Int := if a = 0 then 1 else if x < a then 1 else if x = a then -(a : Int) else 0
theorem he_zero (x : Nat) : heG 0 x = 1 := if_pos rfl
theorem he_low {a x : Nat} (h : x < a) : heG a x = 1 := by unfold heG; rw [if_neg (by omega), if_pos h]
theorem he_at {a : Nat} (h : 1 ≤ a) : heG a a = -(a : Int) := by unfold heG; rw [if_neg (by omega), if_neg (by omega), if_pos rfl]
theorem he_high {a x : Nat} (h0 : 1 ≤ a) (h : a < x) : heG a x = 0 := by unfold heG; rw [if_neg (by omega), if_neg (by omega), if_neg (by omega)]
theorem he_part {a : Nat} (h : 1 ≤ a) : ∀ n, sR n (heG a) = if n ≤ a then (n : Int) else 0
  | 0 => by rw [if_pos (by omega)]; rfl
  | n + 1 => by
    rw [sR, he_part h n]
    rcases (show n < a ∨ n = a ∨ a < n by omega) with k | k | k
    · rw [if_pos (by omega), he_low k, if_pos (by omega)]; omega
    · subst k; rw [if_pos (by omega), he_at h, if_neg (by omega)]; omega
    · rw [if_neg (by omega), he_high h k, if_neg (by omega)]; rfl
theorem he_mul {a b : Nat} (h : a < b) (h1 : 1 ≤ a) : ∀ n, sR n (fun x => heG a x * heG b x) = if n ≤ a then (n : Int) else 0
  | 0 => by rw [if_pos (by omega)]; rfl
  | n + 1 => by
    rw [sR, he_mul h h1 n]
    rcases (show n < a ∨ n = a ∨ a < n by omega) with k | k | k
    · rw [if_pos (by omega), he_low k, he_low (show n < b by omega), if_pos (by omega)]; omega
    · subst k; rw [if_pos (by omega), he_at h1, he_low h, if_neg (by omega)]; omega
    · rw [if_neg (by omega), he_high h1 k, if_neg (by omega)]; omega
theorem he_orth {s a b : Nat} (ha : a < s) (hb : b < s) (hne : a ≠ b) : sR s (fun x => heG a x * heG b x) = 0 := by
  have half : ∀ {a b : Nat}, a < b → b < s → sR s (fun x => heG a x * heG b x) = 0 := fun {a b} h hb => by
    by_cases h0 : a = 0
    · subst h0
      have e : sR s (fun x => heG 0 x * heG b x) = sR s (heG b) := sR_congr fun x _ => by rw [he_zero]; omega
      rw [e, he_part (by omega), if_neg (by omega)]
    · rw [he_mul h (by omega), if_neg (by omega)]
  rcases (show a < b ∨ b < a by omega) with h | h
  · exact half h hb
  · rw [← half h ha]
    exact sR_congr fun x _ => Int.mul_comm _ _
/-- What a contrast comes to with itself. -/
def heN (s a : Nat) : Nat := if a = 0 then s else a * (a + 1)
theorem he_sq {a : Nat} (h : 1 ≤ a) : ∀ n, sR n (fun x => heG a x * heG a x) = if n ≤ a then (n : Int) else (a : Int) * (a + 1)
  | 0 => by rw [if_pos (by omega)]; rfl
  | n + 1 => by
    rw [sR, he_sq h n]
    rcases (show n < a ∨ n = a ∨ a < n by omega) with k | k | k
    · rw [if_pos (by omega), he_low k, if_pos (by omega)]; omega
    · subst k; rw [if_pos (by omega), he_at h, if_neg (by omega)]; grind
    · rw [if_neg (by omega), he_high h k, if_neg (by omega)]; omega
theorem he_norm {s a : Nat} (ha : a < s) : sR s (fun x => heG a x * heG a x) = heN s a := by
  unfold heN
  by_cases h0 : a = 0
  · subst h0
    have e : sR s (fun x => heG 0 x * heG 0 x) = sR s fun _ => 1 := sR_congr fun x _ => by rw [he_zero]; decide
    rw [e, sR_one, nR_int, if_pos rfl]
  · rw [he_sq (by omega), if_neg (by omega), if_neg h0]
    simp
theorem heN_pos {s a : Nat} (hs : 1 ≤ s) : 1 ≤ heN s a := by
  unfold heN
  split
  · exact hs
  · exact Nat.mul_pos (by omega) (by omega)
end Go.Proofs.YtjfjdidibglhaabDoor

namespace Go.Proofs.YtjfjdidibglhaabDoor
/-- A product over some columns. -/
def pL : List Nat → (Nat → Int) → Int
  | [], _ => 1
  | c :: cs, F => F c * pL cs F
theorem pL_congr {F G : Nat → Int} : ∀ {cs : List Nat}, (∀ c, c ∈ cs → F c = G c) → pL cs F = pL cs G
  | [], _ => rfl
  | c :: cs, h => by rw [pL, pL, h c (List.mem_cons_self ..), pL_congr fun d hd => h d (List.mem_cons_of_mem _ hd)]
theorem pL_mul (F G : Nat → Int) : ∀ cs : List Nat, pL cs (fun c => F c * G c) = pL cs F * pL cs G
  | [] => rfl
  | c :: cs => by rw [pL, pL, pL, pL_mul F G cs]; grind
def hitG (x y : Nat) : Int := if x = y then 1 else 0
/-- A sum is told apart by what stands in one column. -/
theorem sR_level {N s : Nat} (r : Nat → Nat) (hr : ∀ i, i < N → r i < s) (g : Nat → Int) (F : Nat → Int) : sR N (fun i => g (r i) * F i) = sR s fun x => g x * sR N fun i => hitG (r i) x * F i := by
  have e : (sR s fun x => g x * sR N fun i => hitG (r i) x * F i) = sR s fun x => sR N fun i => g x * (hitG (r i) x * F i) := sR_congr fun x _ => (sR_mul _ _ _).symm
  rw [e, sR_swap]
  exact sR_congr fun i hi => by
    have e2 : (sR s fun x => g x * (hitG (r i) x * F i)) = sR s fun x => idR (r i) x * (g x * F i) := sR_congr fun x _ => by
      have : hitG (r i) x = idR (r i) x := rfl
      rw [this]
      grind
    rw [e2, sR_id (fun x => g x * F i) (r i) s, if_pos (hr i hi)]
/-- Where each choice of levels stands as often, a sum of products is a product of sums. -/
theorem str_prod {N s : Nat} {r : Nat → Nat → Nat} (g : Nat → Nat → Int) : ∀ (cs : List Nat) (J : Nat → Int) (q : Int), cs.Nodup → (∀ i c, i < N → c ∈ cs → r i c < s) →
    (∀ vs : Nat → Nat, (∀ c, c ∈ cs → vs c < s) → sR N (fun i => J i * pL cs fun c => hitG (r i c) (vs c)) = q) →
    sR N (fun i => J i * pL cs fun c => g c (r i c)) = q * pL cs fun c => sR s (g c)
  | [], J, q, _, _, h => by
    have := h (fun _ => 0) (fun c hc => absurd hc (by simp))
    simp only [pL] at this ⊢
    rw [this]
    omega
  | c :: cs, J, q, hd, hr, h => by
    obtain ⟨hc, hcs⟩ := List.nodup_cons.1 hd
    have e1 : sR N (fun i => J i * pL (c :: cs) fun d => g d (r i d)) = sR N (fun i => g c (r i c) * (J i * pL cs fun d => g d (r i d))) := sR_congr fun i _ => by
      rw [pL]
      grind
    rw [e1, sR_level (fun i => r i c) (fun i hi => hr i c hi (List.mem_cons_self ..)) (g c)]
    have e2 : (sR s fun x => g c x * sR N fun i => hitG (r i c) x * (J i * pL cs fun d => g d (r i d))) = sR s fun x => g c x * (q * pL cs fun d => sR s (g d)) := sR_congr fun x hx => by
      have k := str_prod (r := r) g cs (fun i => hitG (r i c) x * J i) q hcs (fun i d hi hm => hr i d hi (List.mem_cons_of_mem _ hm)) fun vs hv => by
        rw [← h (fun d => if d = c then x else vs d) fun d hm => by
          by_cases e : d = c
          · rw [if_pos e]; exact hx
          · rw [if_neg e]
            rcases List.mem_cons.1 hm with q | q
            · exact absurd q e
            · exact hv d q]
        exact sR_congr fun i _ => by
          rw [pL, if_pos rfl]
          have e3 : pL cs (fun d => hitG (r i d) (if d = c then x else vs d)) = pL cs fun d => hitG (r i d) (vs d) := pL_congr fun d hm => by
            have hdc : d ≠ c := fun e => by
              subst e
              exact hc hm
            rw [if_neg hdc]
          rw [e3]
          grind
      have e4 : (sR N fun i => hitG (r i c) x * (J i * pL cs fun d => g d (r i d))) = sR N fun i => hitG (r i c) x * J i * pL cs fun d => g d (r i d) := sR_congr fun i _ => by grind
      rw [e4, k]
    rw [e2, sR_mulr, pL]
    grind
end Go.Proofs.YtjfjdidibglhaabDoor

/- Rao's bound. Nothing of the program. -/
namespace Go.Proofs.YtjfjdidibglhaabDoor

theorem weights (w : Nat → Int) : ∀ M, (∀ i, i < M → 0 < w i) → ∃ (c : Int) (e : Nat → Int), 0 < c ∧ ∀ i, i < M → e i * w i = c
  | 0, _ => ⟨1, fun _ => 0, by decide, fun i h => by omega⟩
  | M + 1, h => by
    obtain ⟨c, e, hc, he⟩ := weights w M fun i hi => h i (by omega)
    refine ⟨c * w M, fun i => if i = M then c else e i * w M, Int.mul_pos hc (h M (by omega)), fun i hi => ?_⟩
    show (if i = M then c else e i * w M) * w i = c * w M
    by_cases k : i = M
    · subst k
      rw [if_pos rfl]
    · rw [if_neg k]
      have := he i (by omega)
      grind
/-- The i-th run. -/
def rnF (R : List (Nat → Nat)) (i c : Nat) : Nat := (R.getD i fun _ => 0) c
theorem rnF_lt {R : List (Nat → Nat)} {i : Nat} (hi : i < R.length) : R.getD i (fun _ => 0) ∈ R := by
  rw [List.getD_eq_getElem?_getD, List.getElem?_eq_getElem hi]
  exact List.getElem_mem hi
/-- How many runs, as a sum of products. -/
theorem hit_sum (cs : List Nat) (v : Nat → Nat) : ∀ R : List (Nat → Nat), sR R.length (fun i => 1 * pL cs fun c => hitG (rnF R i c) (v c)) = (hit R cs v : Int) := by
  have hp : ∀ x : Nat → Nat, pL cs (fun c => hitG (x c) (v c)) = if mtc cs v x = true then 1 else 0 := fun x => by
    induction cs with
    | nil => rfl
    | cons c cs ih =>
      rw [pL, ih]
      unfold mtc hitG
      rw [List.all_cons]
      by_cases e : x c = v c
      · rw [if_pos e]
        simp [e]
      · rw [if_neg e]
        simp [e]
  have key : ∀ (R : List (Nat → Nat)) (n : Nat), n ≤ R.length → sR n (fun i => 1 * pL cs fun c => hitG (rnF R i c) (v c)) = ((R.take n).countP (mtc cs v) : Int) := by
    intro R n
    induction n with
    | zero => intro _; rfl
    | succ n ih =>
      intro hn
      rw [sR, ih (by omega), List.take_add_one, List.countP_append, List.getElem?_eq_getElem (show n < R.length by omega)]
      have e : pL cs (fun c => hitG (rnF R n c) (v c)) = if mtc cs v (R[n]'(by omega)) = true then 1 else 0 := by
        rw [← hp]
        unfold rnF
        rw [List.getD_eq_getElem?_getD, List.getElem?_eq_getElem (show n < R.length by omega)]
        rfl
      rw [e]
      simp only [Option.toList_some, List.countP_cons, List.countP_nil]
      split <;> simp
  intro R
  have := key R R.length (Nat.le_refl _)
  rw [List.take_length] at this
  exact this
theorem pL_zero {F : Nat → Int} : ∀ {cs : List Nat} {c : Nat}, c ∈ cs → F c = 0 → pL cs F = 0
  | [], c, h, _ => by simp at h
  | d :: cs, c, h, e => by
    rw [pL]
    rcases List.mem_cons.1 h with q | q
    · subst q; rw [e]; omega
    · rw [pL_zero q e]; omega
theorem pL_pos {F : Nat → Int} : ∀ {cs : List Nat}, (∀ c ∈ cs, 0 < F c) → 0 < pL cs F
  | [], _ => by show (0 : Int) < 1; decide
  | c :: cs, h => by
    rw [pL]
    exact Int.mul_pos (h c List.mem_cons_self) (pL_pos fun d hd => h d (List.mem_cons_of_mem _ hd))
theorem pL_filter {F : Nat → Int} {p : Nat → Bool} : ∀ {cs : List Nat}, (∀ c ∈ cs, p c = false → F c = 1) → pL cs F = pL (cs.filter p) F
  | [], _ => rfl
  | c :: cs, h => by
    rw [pL, List.filter_cons, pL_filter fun d hd => h d (List.mem_cons_of_mem _ hd)]
    cases e : p c with
    | true => rw [if_pos rfl, pL]
    | false => rw [if_neg (by simp), h c List.mem_cons_self e]; omega
/-- In how many columns a choice of contrasts is not 0. -/
def nzN (k : Nat) (a b : List Nat) : Nat := (List.range k).countP fun c => decide (a.getD c 0 ≠ 0) || decide (b.getD c 0 ≠ 0)
/-- The list of a choice of contrasts, over the runs. -/
def coF (R : List (Nat → Nat)) (k : Nat) (a : List Nat) (i : Nat) : Int := pL (List.range k) fun c => heG (a.getD c 0) (rnF R i c)
/-- What two of them come to together. -/
theorem co_sum {s k t : Nat} {R : List (Nat → Nat)} (hs : 0 < s) (hr : Lvl s k R) (ht : t ≤ k) (h : Str s k R t) {a b : List Nat} (hn : nzN k a b ≤ t) :
    ∃ q : Nat, (0 < R.length → 0 < q) ∧ sR R.length (fun i => coF R k a i * coF R k b i) = (q : Int) * pL ((List.range k).filter fun c => decide (a.getD c 0 ≠ 0) || decide (b.getD c 0 ≠ 0)) fun c => sR s fun x => heG (a.getD c 0) x * heG (b.getD c 0) x := by
  obtain ⟨p, hp⟩ : ∃ p : Nat → Bool, p = fun c => decide (a.getD c 0 ≠ 0) || decide (b.getD c 0 ≠ 0) := ⟨_, rfl⟩
  have hcs : Pts k ((List.range k).filter p) := ⟨List.nodup_range.filter _, fun c hc => List.mem_range.1 (List.mem_filter.1 hc).1⟩
  have hl : ((List.range k).filter p).length ≤ t := by
    rw [← List.countP_eq_length_filter, hp]
    exact hn
  rw [← hp]
  have h1 := Str.low hs hr ht h _ hl
  obtain ⟨m, hm⟩ : ∃ m, m = ((List.range k).filter p).length := ⟨_, rfl⟩
  have hall : ∀ v : Nat → Nat, (∀ c ∈ (List.range k).filter p, v c < s) → hit R ((List.range k).filter p) v * s ^ m = R.length := fun v hv => by
    rw [hm]
    exact h1.all hs hr hcs rfl hv
  have hpw : 0 < s ^ m := Nat.pow_pos hs
  have hq : ∀ v : Nat → Nat, (∀ c ∈ (List.range k).filter p, v c < s) → hit R ((List.range k).filter p) v = R.length / s ^ m := fun v hv => by
    rw [← hall v hv, Nat.mul_div_cancel _ hpw]
  refine ⟨R.length / s ^ m, fun h0 => ?_, ?_⟩
  · have := hall (fun _ => 0) fun _ _ => hs
    rw [hq (fun _ => 0) fun _ _ => hs] at this
    rcases Nat.eq_zero_or_pos (R.length / s ^ m) with e | e
    · rw [e] at this; omega
    · exact e
  · have e1 : sR R.length (fun i => coF R k a i * coF R k b i) = sR R.length fun i => 1 * pL ((List.range k).filter p) fun c => heG (a.getD c 0) (rnF R i c) * heG (b.getD c 0) (rnF R i c) := sR_congr fun i _ => by
      unfold coF
      rw [← pL_mul, Int.one_mul]
      refine pL_filter fun c _ hc => ?_
      rw [hp] at hc
      simp only [Bool.or_eq_false_iff, decide_eq_false_iff_not, Decidable.not_not] at hc
      rw [hc.1, hc.2, he_zero]
      rfl
    rw [e1]
    refine str_prod (r := rnF R) (fun c x => heG (a.getD c 0) x * heG (b.getD c 0) x) _ (fun _ => 1) _ hcs.nd (fun i c hi hc => hr _ (rnF_lt hi) c (hcs.lt c hc)) fun vs hv => ?_
    rw [hit_sum, hq vs hv]
/-- Choices that meet in few columns are no more than runs. -/
theorem rao_any {s k t : Nat} {R : List (Nat → Nat)} (hs : 0 < s) (hr : Lvl s k R) (ht : t ≤ k) (h : Str s k R t) (h0 : 0 < R.length) {A : List (List Nat)} (hd : A.Nodup) (hl : ∀ a ∈ A, a.length = k) (hA : ∀ a ∈ A, ∀ c, c < k → a.getD c 0 < s)
    (hn : ∀ a ∈ A, ∀ b ∈ A, nzN k a b ≤ t) : A.length ≤ R.length := by
  have hm : ∀ i, i < A.length → A.getD i [] ∈ A := fun i hi => by
    rw [List.getD_eq_getElem?_getD, List.getElem?_eq_getElem hi]
    exact List.getElem_mem hi
  have hw : ∀ i, i < A.length → 0 < sR R.length fun a => coF R k (A.getD i []) a * coF R k (A.getD i []) a := fun i hi => by
    obtain ⟨q, hq, e⟩ := co_sum hs hr ht h (hn _ (hm i hi) _ (hm i hi))
    rw [e]
    refine Int.mul_pos (by have := hq h0; omega) (pL_pos fun c hc => ?_)
    have hck := List.mem_range.1 (List.mem_filter.1 hc).1
    rw [he_norm (hA _ (hm i hi) c hck)]
    have := heN_pos (a := (A.getD i []).getD c 0) (show 1 ≤ s from hs)
    omega
  obtain ⟨c, e, hc, he⟩ := weights _ A.length hw
  refine orth_le (x := fun i a => coF R k (A.getD i []) a) hc he fun i j hi hj => ?_
  by_cases hij : i = j
  · subst hij
    rw [id_self, Int.one_mul]
  · have hne : A.getD i [] ≠ A.getD j [] := fun e => by
      rw [List.getD_eq_getElem?_getD, List.getD_eq_getElem?_getD, List.getElem?_eq_getElem hi, List.getElem?_eq_getElem hj] at e
      have hpw := List.pairwise_iff_getElem.1 hd
      rcases (show i < j ∨ j < i by omega) with q | q
      · exact hpw i j hi hj q e
      · exact hpw j i hj hi q e.symm
    have hcol : ∃ c, c < k ∧ (A.getD i []).getD c 0 ≠ (A.getD j []).getD c 0 := by
      refine Classical.byContradiction fun hno => hne ?_
      have h1 := hl _ (hm i hi)
      have h2 := hl _ (hm j hj)
      refine List.ext_getElem (by omega) fun c hc1 hc2 => ?_
      have h3 : ∀ c, c < k → (A.getD i []).getD c 0 = (A.getD j []).getD c 0 := fun c hck => Classical.byContradiction fun q => hno ⟨c, hck, q⟩
      have h4 := h3 c (by omega)
      simp only [List.getD_eq_getElem?_getD (l := A.getD i []), List.getD_eq_getElem?_getD (l := A.getD j []), List.getElem?_eq_getElem hc1, List.getElem?_eq_getElem hc2] at h4
      exact h4
    obtain ⟨d, hdk, hdn⟩ := hcol
    obtain ⟨q, _, e2⟩ := co_sum hs hr ht h (hn _ (hm i hi) _ (hm j hj))
    show sR R.length (fun a => coF R k (A.getD i []) a * coF R k (A.getD j []) a) = _
    rw [e2, pL_zero (c := d) (List.mem_filter.2 ⟨List.mem_range.2 hdk, by rw [Bool.or_eq_true, decide_eq_true_eq, decide_eq_true_eq]; omega⟩) (he_orth (hA _ (hm i hi) d hdk) (hA _ (hm j hj) d hdk) hdn)]
    unfold idR
    rw [if_neg hij]
    omega
end Go.Proofs.YtjfjdidibglhaabDoor

namespace Go.Proofs.YtjfjdidibglhaabDoor

/-- Ways to choose, by Pascal. -/
def chB : Nat → Nat → Nat
  | _, 0 => 1
  | 0, _ + 1 => 0
  | n + 1, k + 1 => chB n k + chB n (k + 1)
theorem chB_zero (n : Nat) : chB n 0 = 1 := by cases n <;> rfl
theorem chB_pas (n k : Nat) : chB (n + 1) (k + 1) = chB n k + chB n (k + 1) := rfl
theorem chB_gt : ∀ {n k : Nat}, n < k → chB n k = 0
  | _, 0, h => by omega
  | 0, k + 1, _ => rfl
  | n + 1, k + 1, h => by rw [chB_pas, chB_gt (by omega), chB_gt (by omega)]
theorem chB_pos : ∀ {n k : Nat}, k ≤ n → 1 ≤ chB n k
  | n, 0, _ => by rw [chB_zero]; omega
  | 0, k + 1, h => by omega
  | n + 1, k + 1, h => by
    rw [chB_pas]
    have := chB_pos (n := n) (k := k) (by omega)
    omega
theorem chB_self : ∀ n, chB n n = 1
  | 0 => rfl
  | n + 1 => by rw [chB_pas, chB_self n, chB_gt (by omega)]
theorem chB_step : ∀ {n k : Nat}, k ≤ n → chB n (k + 1) * (k + 1) = chB n k * (n - k)
  | 0, 0, _ => rfl
  | 0, k + 1, h => by omega
  | n + 1, 0, _ => by
    rw [chB_pas, chB_zero, chB_zero]
    have := chB_step (n := n) (k := 0) (by omega)
    rw [chB_zero] at this
    omega
  | n + 1, k + 1, h => by
    have h2 := chB_step (n := n) (k := k) (by omega)
    rw [chB_pas, chB_pas]
    by_cases e : k + 1 ≤ n
    · have h1 := chB_step (n := n) (k := k + 1) e
      obtain ⟨d, rfl⟩ : ∃ d, n = k + 1 + d := ⟨n - (k + 1), by omega⟩
      have e1 : k + 1 + d - (k + 1) = d := by omega
      have e2 : k + 1 + d - k = d + 1 := by omega
      have e3 : k + 1 + d + 1 - (k + 1) = d + 1 := by omega
      rw [e1] at h1
      rw [e2] at h2
      rw [e3]
      grind
    · obtain rfl : n = k := by omega
      rw [chB_gt (show n < n + 1 by omega), chB_gt (show n < n + 1 + 1 by omega)]
      simp
theorem chB_le : ∀ n k, chB n k ≤ 2 ^ n
  | n, 0 => by rw [chB_zero]; exact Nat.one_le_two_pow
  | 0, k + 1 => by show 0 ≤ _; omega
  | n + 1, k + 1 => by
    rw [chB_pas, Nat.pow_succ]
    have := chB_le n k
    have := chB_le n (k + 1)
    omega
/-- The sum to u. -/
def raS (k s : Nat) : Nat → Nat
  | 0 => 1
  | u + 1 => raS k s u + (s - 1) ^ (u + 1) * chB k (u + 1)
def raN (k s t : Nat) : Nat := if t % 2 = 1 then raS k s (t / 2) + (s - 1) ^ (t / 2 + 1) * chB (k - 1) (t / 2) else raS k s (t / 2)
theorem raS_pas (k s : Nat) : ∀ u, raS (k + 1) s (u + 1) = raS k s (u + 1) + (s - 1) * raS k s u
  | 0 => by
    simp only [raS, chB_pas, chB_zero]
    grind
  | u + 1 => by
    rw [raS, raS_pas k s u, chB_pas, raS]
    have e : raS k s (u + 1 + 1) = raS k s (u + 1) + (s - 1) ^ (u + 1 + 1) * chB k (u + 1 + 1) := rfl
    rw [e, raS]
    have : (s - 1) ^ (u + 1 + 1) = (s - 1) * (s - 1) ^ (u + 1) := by rw [Nat.pow_succ, Nat.mul_comm]
    rw [this]
    generalize (s - 1) ^ (u + 1) = p
    grind
theorem raS_none (s : Nat) : ∀ u, raS 0 s u = 1
  | 0 => rfl
  | u + 1 => by rw [raS, raS_none s u, chB_gt (by omega)]; simp
/-- Choices of contrasts with at most u columns that are not 0. -/
def alL (s : Nat) : Nat → Nat → List (List Nat)
  | 0, _ => [[]]
  | k + 1, 0 => (alL s k 0).map (fun a => 0 :: a)
  | k + 1, u + 1 => (alL s k (u + 1)).map (fun a => 0 :: a) ++ (List.range (s - 1)).flatMap fun y => (alL s k u).map (fun a => (y + 1) :: a)
theorem flat_len2 (l : List (List Nat)) (f : Nat → Nat) : ∀ n : Nat, ((List.range n).flatMap fun y => l.map (f y :: ·)).length = n * l.length
  | 0 => by simp
  | n + 1 => by rw [List.range_succ, List.flatMap_append, List.length_append, flat_len2 l f n]; simp [Nat.add_mul]
theorem alL_len (s : Nat) : ∀ k u, (alL s k u).length = raS k s u
  | 0, u => by rw [raS_none]; rfl
  | k + 1, 0 => by
    rw [alL, List.length_map, alL_len s k 0]
    rfl
  | k + 1, u + 1 => by
    rw [alL, List.length_append, List.length_map, alL_len s k (u + 1), flat_len2, alL_len s k u, raS_pas]
theorem alL_is {s : Nat} (hs : 0 < s) : ∀ {k u : Nat} {a : List Nat}, a ∈ alL s k u → a.length = k ∧ (∀ c, c < k → a.getD c 0 < s) ∧ (List.range k).countP (fun c => decide (a.getD c 0 ≠ 0)) ≤ u
  | 0, u, a, h => by
    obtain rfl : a = [] := by simpa [alL] using h
    exact ⟨rfl, fun c hc => by omega, by simp⟩
  | k + 1, u, a, h => by
    have cnt : ∀ (y : Nat) (b : List Nat), (List.range (k + 1)).countP (fun c => decide ((y :: b).getD c 0 ≠ 0)) = (if y ≠ 0 then 1 else 0) + (List.range k).countP fun c => decide (b.getD c 0 ≠ 0) := fun y b => by
      rw [List.range_succ_eq_map, List.countP_cons, List.countP_map]
      have e : ((fun c => decide ((y :: b).getD c 0 ≠ 0)) ∘ Nat.succ) = fun c => decide (b.getD c 0 ≠ 0) := funext fun c => by simp
      rw [e]
      simp
      omega
    have lev : ∀ (y : Nat) (b : List Nat), y < s → (∀ c, c < k → b.getD c 0 < s) → ∀ c, c < k + 1 → (y :: b).getD c 0 < s := fun y b hy hb c hc => by
      cases c with
      | zero => exact hy
      | succ c => simpa using hb c (by omega)
    have zero : ∀ u, a ∈ (alL s k u).map (fun a => 0 :: a) → a.length = k + 1 ∧ (∀ c, c < k + 1 → a.getD c 0 < s) ∧ (List.range (k + 1)).countP (fun c => decide (a.getD c 0 ≠ 0)) ≤ u := fun u h => by
      obtain ⟨b, hb, rfl⟩ := List.mem_map.1 h
      obtain ⟨h1, h2, h3⟩ := alL_is hs hb
      refine ⟨by rw [List.length_cons, h1], lev 0 b hs h2, ?_⟩
      rw [cnt, if_neg (by simp)]
      omega
    cases u with
    | zero => exact zero 0 h
    | succ u =>
      rw [alL, List.mem_append] at h
      rcases h with h | h
      · exact zero _ h
      · obtain ⟨y, hy, h⟩ := List.mem_flatMap.1 h
        have hy := List.mem_range.1 hy
        obtain ⟨b, hb, rfl⟩ := List.mem_map.1 h
        obtain ⟨h1, h2, h3⟩ := alL_is hs hb
        refine ⟨by rw [List.length_cons, h1], lev (y + 1) b (by omega) h2, ?_⟩
        rw [cnt, if_pos (by omega)]
        omega
theorem map_nd {l : List (List Nat)} (h : l.Nodup) (y : Nat) : (l.map (y :: ·)).Nodup := by
  unfold List.Nodup
  rw [List.pairwise_map]
  exact h.imp fun hne e => hne (List.cons.inj e).2
theorem flat_nd {l : List (List Nat)} (h : l.Nodup) {f : Nat → Nat} (hf : ∀ a b, f a = f b → a = b) : ∀ n, ((List.range n).flatMap fun y => l.map (f y :: ·)).Nodup
  | 0 => by simp
  | n + 1 => by
    rw [List.range_succ, List.flatMap_append, List.nodup_append]
    refine ⟨flat_nd h hf n, by simpa using map_nd h (f n), fun a ha b hb e => ?_⟩
    obtain ⟨y, hy, ha⟩ := List.mem_flatMap.1 ha
    obtain ⟨a', _, rfl⟩ := List.mem_map.1 ha
    obtain ⟨z, hz, hb⟩ := List.mem_flatMap.1 hb
    obtain ⟨b', _, rfl⟩ := List.mem_map.1 hb
    obtain rfl : z = n := by simpa using hz
    have := hf _ _ (List.cons.inj e).1
    have := List.mem_range.1 hy
    omega
theorem alL_nd (s : Nat) : ∀ k u, (alL s k u).Nodup
  | 0, u => by simp [alL]
  | k + 1, 0 => map_nd (alL_nd s k 0) 0
  | k + 1, u + 1 => by
    rw [alL, List.nodup_append]
    refine ⟨map_nd (alL_nd s k (u + 1)) 0, flat_nd (alL_nd s k u) (fun a b h => by omega) _, fun a ha b hb e => ?_⟩
    obtain ⟨a', _, rfl⟩ := List.mem_map.1 ha
    obtain ⟨z, hz, hb⟩ := List.mem_flatMap.1 hb
    obtain ⟨b', _, rfl⟩ := List.mem_map.1 hb
    have := (List.cons.inj e).1
    omega
theorem cnt_or (p q : Nat → Bool) : ∀ l : List Nat, l.countP (fun c => p c || q c) ≤ l.countP p + l.countP q
  | [] => by simp
  | c :: l => by
    rw [List.countP_cons, List.countP_cons, List.countP_cons]
    have := cnt_or p q l
    cases p c <;> cases q c <;> simp <;> omega
theorem nz_le (k : Nat) (a b : List Nat) : nzN k a b ≤ (List.range k).countP (fun c => decide (a.getD c 0 ≠ 0)) + (List.range k).countP fun c => decide (b.getD c 0 ≠ 0) := cnt_or _ _ _
/-- RAO: there are as many runs, or more. -/
theorem rao_le {s k t : Nat} {R : List (Nat → Nat)} (hs : 0 < s) (hr : Lvl s k R) (ht : t ≤ k) (h : Str s k R t) (h0 : 0 < R.length) : raN k s t ≤ R.length := by
  unfold raN
  by_cases e : t % 2 = 1
  · rw [if_pos e]
    obtain ⟨m, rfl⟩ : ∃ m, k = m + 1 := ⟨k - 1, by omega⟩
    obtain ⟨u, hu⟩ : ∃ u, u = t / 2 := ⟨_, rfl⟩
    rw [← hu, Nat.add_sub_cancel]
    have key : raS (m + 1) s u + (s - 1) ^ (u + 1) * chB m u = s * raS m s u := by
      obtain ⟨q, rfl⟩ : ∃ q, s = q + 1 := ⟨s - 1, by omega⟩
      cases u with
      | zero => simp only [raS, chB_zero]; simp; omega
      | succ u =>
        rw [raS_pas]
        have e2 : raS m (q + 1) (u + 1) = raS m (q + 1) u + (q + 1 - 1) ^ (u + 1) * chB m (u + 1) := rfl
        rw [Nat.add_sub_cancel] at e2 ⊢
        have : q ^ (u + 1 + 1) = q * q ^ (u + 1) := by rw [Nat.pow_succ, Nat.mul_comm]
        rw [this]
        generalize q ^ (u + 1) = p at *
        generalize raS m (q + 1) (u + 1) = A at *
        subst e2
        grind
    have hlen : ((List.range s).flatMap fun y => (alL s m u).map (y :: ·)).length = s * raS m s u := by
      rw [flat_len2 _ (fun y => y), alL_len]
    rw [key, ← hlen]
    have cnt : ∀ a b : List Nat, nzN (m + 1) a b ≤ 1 + nzN m a.tail b.tail := fun a b => by
      unfold nzN
      rw [List.range_succ_eq_map, List.countP_cons, List.countP_map]
      have e : ((fun c => decide (a.getD c 0 ≠ 0) || decide (b.getD c 0 ≠ 0)) ∘ Nat.succ) = fun c => decide (a.tail.getD c 0 ≠ 0) || decide (b.tail.getD c 0 ≠ 0) := funext fun c => by
        have g : ∀ l : List Nat, l.getD (c + 1) 0 = l.tail.getD c 0 := fun l => by cases l <;> simp
        simp only [Function.comp, Nat.succ_eq_add_one, g]
      rw [e]
      split <;> omega
    have part : ∀ a, a ∈ ((List.range s).flatMap fun y => (alL s m u).map (y :: ·)) → ∃ y b, y < s ∧ b ∈ alL s m u ∧ a = y :: b := fun a ha => by
      obtain ⟨y, hy, ha⟩ := List.mem_flatMap.1 ha
      obtain ⟨b, hb, rfl⟩ := List.mem_map.1 ha
      exact ⟨y, b, List.mem_range.1 hy, hb, rfl⟩
    refine rao_any hs hr ht h h0 (flat_nd (alL_nd s m u) (f := fun y => y) (fun _ _ h => h) s) (fun a ha => ?_) (fun a ha c hc => ?_) (fun a ha b hb => ?_)
    · obtain ⟨y, b, _, hb, rfl⟩ := part a ha
      rw [List.length_cons, (alL_is hs hb).1]
    · obtain ⟨y, b, hy, hb, rfl⟩ := part a ha
      cases c with
      | zero => exact hy
      | succ c => simpa using (alL_is hs hb).2.1 c (by omega)
    · obtain ⟨y, a, _, ha', rfl⟩ := part a ha
      obtain ⟨z, b, _, hb', rfl⟩ := part b hb
      have h1 := cnt (y :: a) (z :: b)
      have h2 := nz_le m a b
      have h3 := (alL_is hs ha').2.2
      have h4 := (alL_is hs hb').2.2
      simp only [List.tail_cons] at h1
      omega
  · rw [if_neg e, ← alL_len]
    refine rao_any hs hr ht h h0 (alL_nd _ _ _) (fun a ha => (alL_is hs ha).1) (fun a ha => (alL_is hs ha).2.1) fun a ha b hb => ?_
    have h2 := nz_le k a b
    have h3 := (alL_is hs ha).2.2
    have h4 := (alL_is hs hb).2.2
    omega
end Go.Proofs.YtjfjdidibglhaabDoor
