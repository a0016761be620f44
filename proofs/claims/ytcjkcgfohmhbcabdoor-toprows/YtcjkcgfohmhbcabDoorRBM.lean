/- Berlekamp and Massey: the shortest taps, as plain words; nothing of the program. -/
import Derived.Test.YtcjkcgfohmhbcabDoorRPure
namespace Go.Proofs.YtcjkcgfohmhbcabDoor.Rc

theorem sumTo_dvd {p : Int} {F G : Nat → Int} {n : Nat} (h : ∀ j, j < n → p ∣ F j - G j) : p ∣ sumTo F n - sumTo G n := by
  induction n with
  | zero => exact Int.dvd_zero p
  | succ n ih =>
    have h1 := ih (fun j hj => h j (by omega))
    have h2 := Int.dvd_add h1 (h n (by omega))
    simp only [sumTo]
    rwa [show sumTo F n - sumTo G n + (F n - G n) = sumTo F n + F n - (sumTo G n + G n) by omega] at h2
theorem sumTo_sub (F G : Nat → Int) (n : Nat) : sumTo (fun j => F j - G j) n = sumTo F n - sumTo G n := by
  induction n with
  | zero => rfl
  | succ n ih => simp only [sumTo]; rw [ih]; omega
theorem sumTo_zero {F : Nat → Int} {n : Nat} (h : ∀ j, j < n → F j = 0) : sumTo F n = 0 := by
  induction n with
  | zero => rfl
  | succ n ih => rw [sumTo, ih (fun j hj => h j (by omega)), h n (by omega)]; rfl
theorem sumTo_swap (g : Nat → Nat → Int) (m : Nat) : ∀ n, sumTo (fun a => sumTo (g a) m) n = sumTo (fun b => sumTo (fun a => g a b) n) m
  | 0 => by
    show 0 = sumTo (fun _ => 0) m
    rw [sumTo_zero (fun _ _ => rfl)]
  | n + 1 => by
    show sumTo (fun a => sumTo (g a) m) n + sumTo (g n) m = sumTo (fun b => sumTo (fun a => g a b) n + g n b) m
    rw [sumTo_swap g m n, sumTo_add]
theorem sumTo_more {F : Nat → Int} {n N : Nat} (hn : n ≤ N) (h : ∀ j, n ≤ j → j < N → F j = 0) : sumTo F N = sumTo F n := by
  induction N with
  | zero => obtain rfl : n = 0 := by omega
            rfl
  | succ N ih =>
    by_cases e : n = N + 1
    · subst e; rfl
    · rw [sumTo, ih (by omega) (fun j h1 h2 => h j h1 (by omega)), h N (by omega) (by omega), Int.add_zero]
theorem sumTo_one (x : Int) {F : Nat → Int} {s N : Nat} (hs : s < N) (h1 : F s = x) (h : ∀ j, j < N → j ≠ s → F j = 0) : sumTo F N = x := by
  induction N with
  | zero => omega
  | succ N ih =>
    by_cases e : s = N
    · subst e
      rw [sumTo, sumTo_zero (fun j hj => h j (by omega) (by omega)), h1, Int.zero_add]
    · rw [sumTo, ih (by omega) (fun j hj hne => h j (by omega) hne), h N (by omega) (fun e' => e e'.symm), Int.add_zero]
theorem sumTo_late {F G : Nat → Int} {s M : Nat} (h0 : ∀ j, j < s → F j = 0) (h : ∀ b, b < M → F (s + b) = G b) : sumTo F (s + M) = sumTo G M := by
  induction M with
  | zero => exact sumTo_zero h0
  | succ M ih =>
    show sumTo F (s + M) + F (s + M) = sumTo G M + G M
    rw [ih (fun b hb => h b (by omega)), h M (by omega)]

/-- What taps make at a place. -/
def dot (T : List Int) (f : Nat → Int) (j : Nat) : Int := sumTo (fun a => T.getD a 0 * f (j - 1 - a)) T.length
/-- Taps make the first n numbers. -/
def Makes (p : Int) (T : List Int) (f : Nat → Int) (n : Nat) : Prop := ∀ j, T.length ≤ j → j < n → p ∣ f j - dot T f j
theorem Makes.le {p : Int} {T : List Int} {f : Nat → Int} {n m : Nat} (h : Makes p T f n) (hm : m ≤ n) : Makes p T f m := fun j h1 h2 => h j h1 (by omega)
theorem Makes.succ {p : Int} {T : List Int} {f : Nat → Int} {n : Nat} (h : Makes p T f n) (hn : p ∣ f n - dot T f n) : Makes p T f (n + 1) := by
  intro j h1 h2
  by_cases e : j = n
  · subst e; exact hn
  · exact h j h1 (by omega)
theorem massey {p : Int} {f : Nat → Int} {T U : List Int} {i : Nat} (hT : Makes p T f i) (hbad : ¬ p ∣ f i - dot T f i) (hU : Makes p U f (i + 1)) : i + 1 ≤ T.length + U.length := by
  apply Classical.byContradiction
  intro hlt
  apply hbad
  have h1 : p ∣ dot T f i - sumTo (fun a => sumTo (fun b => T.getD a 0 * (U.getD b 0 * f (i - 1 - a - 1 - b))) U.length) T.length := by
    refine sumTo_dvd (fun a ha => ?_)
    rw [sumTo_mul]
    have h := hU (i - 1 - a) (by omega) (by omega)
    have h2 := Int.dvd_mul_of_dvd_right (b := T.getD a 0) h
    rwa [Int.mul_sub] at h2
  have h2 : p ∣ dot U f i - sumTo (fun b => sumTo (fun a => U.getD b 0 * (T.getD a 0 * f (i - 1 - b - 1 - a))) T.length) U.length := by
    refine sumTo_dvd (fun b hb => ?_)
    rw [sumTo_mul]
    have h := hT (i - 1 - b) (by omega) (by omega)
    have h2 := Int.dvd_mul_of_dvd_right (b := U.getD b 0) h
    rwa [Int.mul_sub] at h2
  have h3 : sumTo (fun a => sumTo (fun b => T.getD a 0 * (U.getD b 0 * f (i - 1 - a - 1 - b))) U.length) T.length = sumTo (fun b => sumTo (fun a => U.getD b 0 * (T.getD a 0 * f (i - 1 - b - 1 - a))) T.length) U.length := by
    rw [sumTo_swap (fun a b => T.getD a 0 * (U.getD b 0 * f (i - 1 - a - 1 - b)))]
    refine sumTo_congr (fun b _ => sumTo_congr (fun a _ => ?_))
    rw [Int.mul_left_comm, show i - 1 - a - 1 - b = i - 1 - b - 1 - a by omega]
  rw [h3] at h1
  have h4 := hU i (by omega) (by omega)
  have h5 := Int.dvd_sub (Int.dvd_add h4 h2) h1
  rwa [show f i - dot U f i + (dot U f i - sumTo (fun b => sumTo (fun a => U.getD b 0 * (T.getD a 0 * f (i - 1 - b - 1 - a))) T.length) U.length) - (dot T f i - sumTo (fun b => sumTo (fun a => U.getD b 0 * (T.getD a 0 * f (i - 1 - b - 1 - a))) T.length) U.length) = f i - dot T f i by omega] at h5

/-- The mended taps: T, and so often what H misses, moved by s. -/
def mendF (p : Int) (T H : List Int) (s : Nat) (o : Int) (a : Nat) : Int :=
  if a = s - 1 then (T.getD a 0 + o) % p else if s ≤ a ∧ a < s + H.length then (T.getD a 0 + o * (p - H.getD (a - s) 0)) % p else T.getD a 0
def mendL (p : Int) (T H : List Int) (s : Nat) (o : Int) : List Int := (List.range (max T.length (s + H.length))).map (mendF p T H s o)
theorem mendL_len (p : Int) (T H : List Int) (s : Nat) (o : Int) : (mendL p T H s o).length = max T.length (s + H.length) := by simp [mendL]
theorem mendL_at (p : Int) (T H : List Int) (s : Nat) (o : Int) {a : Nat} (h : a < max T.length (s + H.length)) : (mendL p T H s o).getD a 0 = mendF p T H s o a := by
  unfold mendL
  rw [List.getD_eq_getElem?_getD, List.getElem?_map, List.getElem?_range h]; rfl
theorem emod_dvd (p x : Int) : p ∣ x % p - x := by
  have h := Int.emod_add_mul_ediv x p
  exact ⟨-(x / p), by rw [Int.mul_neg]; omega⟩
theorem mend_dot {p : Int} {T H : List Int} {s : Nat} {o : Int} (hs : 1 ≤ s) (f : Nat → Int) (j : Nat) :
    p ∣ dot (mendL p T H s o) f j - (dot T f j + o * (f (j - s) - dot H f (j - s))) := by
  obtain ⟨N, hN⟩ : ∃ N, N = max T.length (s + H.length) := ⟨_, rfl⟩
  -- the three parts of each of the new taps
  have hpart : ∀ a, a < N → p ∣ (mendL p T H s o).getD a 0 * f (j - 1 - a) - (T.getD a 0 * f (j - 1 - a) + ((if a = s - 1 then o * f (j - 1 - a) else 0) - (if s ≤ a ∧ a < s + H.length then o * (H.getD (a - s) 0 * f (j - 1 - a)) else 0))) := by
    intro a ha
    rw [mendL_at p T H s o (by rw [← hN]; exact ha)]
    unfold mendF
    by_cases e1 : a = s - 1
    · rw [if_pos e1, if_pos e1, if_neg (by omega), Int.sub_zero, ← Int.add_mul, ← Int.sub_mul]
      exact Int.dvd_mul_of_dvd_left (emod_dvd p _)
    · rw [if_neg e1, if_neg e1]
      by_cases e2 : s ≤ a ∧ a < s + H.length
      · rw [if_pos e2, if_pos e2, Int.zero_sub]
        have h1 := Int.dvd_mul_of_dvd_left (c := f (j - 1 - a)) (emod_dvd p (T.getD a 0 + o * (p - H.getD (a - s) 0)))
        have h2 : p ∣ p * (o * f (j - 1 - a)) := Int.dvd_mul_right p _
        have h3 := Int.dvd_add h1 h2
        have e3 : (T.getD a 0 + o * (p - H.getD (a - s) 0)) * f (j - 1 - a) = T.getD a 0 * f (j - 1 - a) + (p * (o * f (j - 1 - a)) - o * (H.getD (a - s) 0 * f (j - 1 - a))) := by
          rw [Int.add_mul, Int.mul_sub, Int.sub_mul, Int.mul_comm o p, Int.mul_assoc p o, Int.mul_assoc o]
        rw [Int.sub_mul, e3] at h3
        rwa [show (T.getD a 0 + o * (p - H.getD (a - s) 0)) % p * f (j - 1 - a) - (T.getD a 0 * f (j - 1 - a) + (p * (o * f (j - 1 - a)) - o * (H.getD (a - s) 0 * f (j - 1 - a)))) + p * (o * f (j - 1 - a)) = (T.getD a 0 + o * (p - H.getD (a - s) 0)) % p * f (j - 1 - a) - (T.getD a 0 * f (j - 1 - a) + -(o * (H.getD (a - s) 0 * f (j - 1 - a)))) by omega] at h3
      · rw [if_neg e2, if_neg e2]
        rw [show T.getD a 0 * f (j - 1 - a) - (T.getD a 0 * f (j - 1 - a) + (0 - 0)) = 0 by omega]
        exact Int.dvd_zero p
  have hsum := sumTo_dvd hpart
  have e0 : sumTo (fun a => (mendL p T H s o).getD a 0 * f (j - 1 - a)) N = dot (mendL p T H s o) f j := by unfold dot; rw [mendL_len, hN]
  have e1 : sumTo (fun a => T.getD a 0 * f (j - 1 - a)) N = dot T f j := by
    unfold dot
    refine sumTo_more (by rw [hN]; exact Nat.le_max_left _ _) (fun a h1 _ => ?_)
    rw [List.getD_eq_getElem?_getD, List.getElem?_eq_none (by omega)]; simp
  have e2 : sumTo (fun a => if a = s - 1 then o * f (j - 1 - a) else 0) N = o * f (j - s) := by
    have hsN : s - 1 < N := by rw [hN]; have := Nat.le_max_right T.length (s + H.length); omega
    refine sumTo_one _ hsN ?_ (fun a _ hne => if_neg hne)
    rw [if_pos rfl, show j - 1 - (s - 1) = j - s by omega]
  have e3 : sumTo (fun a => if s ≤ a ∧ a < s + H.length then o * (H.getD (a - s) 0 * f (j - 1 - a)) else 0) N = o * dot H f (j - s) := by
    rw [sumTo_more (n := s + H.length) (by rw [hN]; exact Nat.le_max_right _ _) (fun a h1 _ => if_neg (by omega))]
    rw [sumTo_late (G := fun b => o * (H.getD b 0 * f (j - s - 1 - b))) (fun a h => if_neg (by omega)) (fun b hb => by
      rw [if_pos (by omega), show s + b - s = b by omega, show j - 1 - (s + b) = j - s - 1 - b by omega])]
    rw [sumTo_mul]; rfl
  have e4 : sumTo (fun a => T.getD a 0 * f (j - 1 - a) + ((if a = s - 1 then o * f (j - 1 - a) else 0) - (if s ≤ a ∧ a < s + H.length then o * (H.getD (a - s) 0 * f (j - 1 - a)) else 0))) N
      = dot T f j + (o * f (j - s) - o * dot H f (j - s)) := by
    rw [sumTo_add, e1]
    rw [sumTo_sub, e2, e3]
  rw [e0, e4] at hsum
  rw [Int.mul_sub]
  exact hsum

/-- What the loop of Berlekamp and Massey holds behind i numbers: the taps T, the help H that missed at h (0: none yet; else one more than the place) by d. -/
structure BM (p : Int) (f : Nat → Int) (i : Nat) (T H : List Int) (h : Nat) (d : Int) : Prop where
  bT : belB p T = true
  bH : belB p H = true
  len : T.length ≤ i
  makes : Makes p T f i
  least : ∀ U, Makes p U f i → T.length ≤ U.length
  miss : 1 ≤ d ∧ d < p
  help : (h = 0 ∧ H = [] ∧ T.length = 0) ∨ (1 ≤ h ∧ h ≤ i ∧ T.length + H.length = h ∧ H.length ≤ h - 1 ∧ Makes p H f (h - 1) ∧ p ∣ f (h - 1) - dot H f (h - 1) - d)
theorem BM.start {p : Int} (hp : 2 ≤ p) (f : Nat → Int) : BM p f 0 [] [] 0 1 :=
  ⟨rfl, rfl, Nat.le_refl _, fun j _ h => by omega, fun U _ => Nat.zero_le _, ⟨Int.le_refl _, by omega⟩, .inl ⟨rfl, rfl, rfl⟩⟩
theorem BM.go {p : Int} {f : Nat → Int} {i : Nat} {T H : List Int} {h : Nat} {d : Int} (B : BM p f i T H h d) (h0 : p ∣ f i - dot T f i) : BM p f (i + 1) T H h d := by
  refine ⟨B.bT, B.bH, by have := B.len; omega, B.makes.succ h0, fun U hU => B.least U (hU.le (by omega)), B.miss, ?_⟩
  rcases B.help with e | ⟨e1, e2, e3⟩
  · exact .inl e
  · exact .inr ⟨e1, by omega, e3⟩
theorem mendL_bel {p : Int} {T H : List Int} {s : Nat} {o : Int} (hp : 0 < p) (hT : belB p T = true) : belB p (mendL p T H s o) = true := by
  rw [belB_iff]
  intro a ha
  rw [mendL_len] at ha
  rw [mendL_at p T H s o ha]
  unfold mendF
  split
  · exact ⟨Int.emod_nonneg _ (by omega), Int.emod_lt_of_pos _ hp⟩
  · split
    · exact ⟨Int.emod_nonneg _ (by omega), Int.emod_lt_of_pos _ hp⟩
    · by_cases hl : a < T.length
      · exact belB_iff.1 hT a hl
      · rw [List.getD_eq_getElem?_getD, List.getElem?_eq_none (by omega)]
        exact ⟨Int.le_refl _, hp⟩
/-- One step: the taps slip at i by m; they are mended. -/
theorem BM.mend {p : Int} {f : Nat → Int} {i : Nat} {T H : List Int} {h : Nat} {d m o : Int} (hp : 2 ≤ p) (B : BM p f i T H h d) (hm : p ∣ f i - dot T f i - m) (hm0 : 1 ≤ m ∧ m < p) (ho : p ∣ o * d - m) :
    Makes p (mendL p T H (i + 1 - h) o) f (i + 1) ∧ (mendL p T H (i + 1 - h) o).length = max T.length (i + 1 - T.length) ∧ (∀ U, Makes p U f (i + 1) → (mendL p T H (i + 1 - h) o).length ≤ U.length) := by
  have hlen := B.len
  have hbad : ¬ p ∣ f i - dot T f i := by
    intro h1
    have h2 := Int.dvd_sub h1 hm
    rw [show f i - dot T f i - (f i - dot T f i - m) = m by omega] at h2
    have := Int.le_of_dvd (by omega) h2
    omega
  have hL : (mendL p T H (i + 1 - h) o).length = max T.length (i + 1 - T.length) := by
    rw [mendL_len]
    rcases B.help with ⟨rfl, rfl, e⟩ | ⟨e1, e2, e3, _⟩
    · rw [e]; simp
    · congr 1; omega
  refine ⟨fun j h1 h2 => ?_, hL, fun U hU => ?_⟩
  · rw [hL] at h1
    have h1a : T.length ≤ j := Nat.le_trans (Nat.le_max_left _ _) h1
    have h1b : i + 1 - T.length ≤ j := Nat.le_trans (Nat.le_max_right _ _) h1
    rcases B.help with ⟨rfl, rfl, e⟩ | ⟨e1, e2, e3, e4, e5, e6⟩
    · omega
    · have hd := mend_dot (p := p) (T := T) (H := H) (s := i + 1 - h) (o := o) (by omega) f j
      by_cases ej : j = i
      · subst ej
        rw [show j - (j + 1 - h) = h - 1 by omega] at hd
        have k1 : p ∣ o * (f (h - 1) - dot H f (h - 1) - d) := Int.dvd_mul_of_dvd_right e6
        rw [Int.mul_sub] at k1
        generalize o * (f (h - 1) - dot H f (h - 1)) = X at hd k1
        have k2 := Int.dvd_sub (Int.dvd_sub (Int.dvd_sub hm hd) k1) ho
        rwa [show f j - dot T f j - m - (dot (mendL p T H (j + 1 - h) o) f j - (dot T f j + X)) - (X - o * d) - (o * d - m) = f j - dot (mendL p T H (j + 1 - h) o) f j by omega] at k2
      · have k1 := e5 (j - (i + 1 - h)) (by omega) (by omega)
        have k2 : p ∣ o * (f (j - (i + 1 - h)) - dot H f (j - (i + 1 - h))) := Int.dvd_mul_of_dvd_right k1
        have k3 := B.makes j h1a (by omega)
        generalize o * (f (j - (i + 1 - h)) - dot H f (j - (i + 1 - h))) = X at hd k2
        have k4 := Int.dvd_sub (Int.dvd_sub k3 hd) k2
        rwa [show f j - dot T f j - (dot (mendL p T H (i + 1 - h) o) f j - (dot T f j + X)) - X = f j - dot (mendL p T H (i + 1 - h) o) f j by omega] at k4
  · rw [hL]
    have k1 := B.least U (hU.le (by omega))
    have k2 := massey B.makes hbad hU
    exact Nat.max_le.2 ⟨k1, by omega⟩
theorem BM.keep {p : Int} {f : Nat → Int} {i : Nat} {T H : List Int} {h : Nat} {d m o : Int} (hp : 2 ≤ p) (B : BM p f i T H h d) (hm : p ∣ f i - dot T f i - m) (hm0 : 1 ≤ m ∧ m < p) (ho : p ∣ o * d - m)
    (hle : (mendL p T H (i + 1 - h) o).length ≤ T.length) : BM p f (i + 1) (mendL p T H (i + 1 - h) o) H h d := by
  obtain ⟨k1, k2, k3⟩ := B.mend hp hm hm0 ho
  have hlen := B.len
  have e : (mendL p T H (i + 1 - h) o).length = T.length := by rw [k2] at hle ⊢; omega
  refine ⟨mendL_bel (by omega) B.bT, B.bH, by omega, k1, k3, B.miss, ?_⟩
  rcases B.help with ⟨rfl, rfl, e'⟩ | ⟨e1, e2, e3⟩
  · rw [k2] at hle; omega
  · exact .inr ⟨e1, by omega, by rw [e]; exact e3⟩
theorem BM.grow {p : Int} {f : Nat → Int} {i : Nat} {T H : List Int} {h : Nat} {d m o : Int} (hp : 2 ≤ p) (B : BM p f i T H h d) (hm : p ∣ f i - dot T f i - m) (hm0 : 1 ≤ m ∧ m < p) (ho : p ∣ o * d - m)
    (hgt : T.length < (mendL p T H (i + 1 - h) o).length) : BM p f (i + 1) (mendL p T H (i + 1 - h) o) T (i + 1) m := by
  obtain ⟨k1, k2, k3⟩ := B.mend hp hm hm0 ho
  have hlen := B.len
  have e : (mendL p T H (i + 1 - h) o).length = i + 1 - T.length := by rw [k2] at hgt ⊢; omega
  refine ⟨mendL_bel (by omega) B.bT, B.bT, by omega, k1, k3, hm0, .inr ⟨by omega, Nat.le_refl _, by omega, by omega, ?_, ?_⟩⟩
  · rw [Nat.add_sub_cancel]; exact B.makes
  · rw [Nat.add_sub_cancel]; exact hm

end Go.Proofs.YtcjkcgfohmhbcabDoor.Rc
