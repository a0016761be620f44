/- Functions of bits: sums over what lies within, Poisson, sums of products, Siegenthaler, Rothaus; nothing of the program. -/
import Derived.Test.YtioggiapkkeloaaDoorBoP
namespace Go.Proofs.YtioggiapkkeloaaDoor

/-- The sum over all that lies within u. -/
def Pu : Nat → Nat → (Nat → Int) → Int
  | 0, _, g => g 0
  | n + 1, u, g => Pu n (u / 2) (fun x => g (x * 2)) + if u % 2 = 1 then Pu n (u / 2) (fun x => g (x * 2 + 1)) else 0
/-- The sum over all that has nothing in common with u. -/
def Qu : Nat → Nat → (Nat → Int) → Int
  | 0, _, h => h 0
  | n + 1, u, h => Qu n (u / 2) (fun x => h (x * 2)) + if u % 2 = 1 then 0 else Qu n (u / 2) (fun x => h (x * 2 + 1))
theorem within_half {x u b : Nat} (hb : b < 2) : (x * 2 + b) &&& u = x * 2 + b ↔ (x &&& (u / 2) = x) ∧ (b = 1 → u % 2 = 1) := by
  have h1 := and_half (x * 2 + b) u
  have h2 := and_odd (x * 2 + b) u
  rw [show (x * 2 + b) / 2 = x by omega] at h1
  rw [show (x * 2 + b) % 2 = b by omega] at h2
  constructor
  · intro h
    rw [h, show (x * 2 + b) / 2 = x by omega] at h1
    rw [h, show (x * 2 + b) % 2 = b by omega] at h2
    refine ⟨h1.symm, fun e => ?_⟩
    subst e
    omega
  · rintro ⟨h, k⟩
    rw [h] at h1
    have : ((x * 2 + b) &&& u) % 2 = b := by
      rw [h2]
      rcases (show b = 0 ∨ b = 1 by omega) with rfl | rfl
      · simp
      · rw [k rfl]
    omega
theorem apart_half {x u b : Nat} (hb : b < 2) : (x * 2 + b) &&& u = 0 ↔ (x &&& (u / 2) = 0) ∧ (b = 1 → u % 2 = 0) := by
  have h1 := and_half (x * 2 + b) u
  have h2 := and_odd (x * 2 + b) u
  rw [show (x * 2 + b) / 2 = x by omega] at h1
  rw [show (x * 2 + b) % 2 = b by omega] at h2
  constructor
  · intro h
    rw [h] at h1 h2
    refine ⟨by omega, fun e => ?_⟩
    subst e
    omega
  · rintro ⟨h, k⟩
    rw [h] at h1
    have : ((x * 2 + b) &&& u) % 2 = 0 := by
      rw [h2]
      rcases (show b = 0 ∨ b = 1 by omega) with rfl | rfl
      · simp
      · rw [k rfl]
    omega
theorem Pu_sum : ∀ (n u : Nat) (g : Nat → Int), Pu n u g = sm (2 ^ n) fun x => if x &&& u = x then g x else 0
  | 0, u, g => by simp [Pu, sm]
  | n + 1, u, g => by
    rw [Nat.pow_succ, sm_two, Pu, Pu_sum n, sm_add]
    congr 1
    · refine sm_congr fun x _ => ?_
      have := within_half (x := x) (u := u) (b := 0) (by omega)
      rw [Nat.add_zero] at this
      by_cases h : x &&& (u / 2) = x
      · rw [if_pos h, if_pos (this.2 ⟨h, fun e => by omega⟩)]
      · rw [if_neg h, if_neg (fun k => h (this.1 k).1)]
    · by_cases hu : u % 2 = 1
      · rw [if_pos hu, Pu_sum n]
        refine sm_congr fun x _ => ?_
        have := within_half (x := x) (u := u) (b := 1) (by omega)
        by_cases h : x &&& (u / 2) = x
        · rw [if_pos h, if_pos (this.2 ⟨h, fun _ => hu⟩)]
        · rw [if_neg h, if_neg (fun k => h (this.1 k).1)]
      · rw [if_neg hu, sm_congr (g := fun _ => 0), sm_nil]
        intro x _
        have := within_half (x := x) (u := u) (b := 1) (by omega)
        rw [if_neg (fun k => hu ((this.1 k).2 rfl))]
theorem Pu_add : ∀ (n u : Nat) (g h : Nat → Int), Pu n u (fun x => g x + h x) = Pu n u g + Pu n u h
  | 0, _, _, _ => rfl
  | n + 1, u, g, h => by
    rw [Pu, Pu, Pu, Pu_add n, Pu_add n]
    split <;> omega
theorem Pu_mul (c : Int) : ∀ (n u : Nat) (g : Nat → Int), Pu n u (fun x => c * g x) = c * Pu n u g
  | 0, _, _ => rfl
  | n + 1, u, g => by
    rw [Pu, Pu, Pu_mul c n, Pu_mul c n]
    split <;> grind
theorem Pu_one : ∀ (n u : Nat), Pu n u (fun _ => 1) = 2 ^ wtk n u
  | 0, _ => rfl
  | n + 1, u => by
    rw [Pu, Pu_one n, wtk]
    rcases Nat.mod_two_eq_zero_or_one u with h | h
    · rw [if_neg (by omega), h, Nat.zero_add]; omega
    · rw [if_pos h, h, Nat.add_comm 1, Int.pow_succ]; omega
theorem Pu_congr {n u : Nat} {g h : Nat → Int} (e : ∀ x, x < 2 ^ n → g x = h x) : Pu n u g = Pu n u h := by
  rw [Pu_sum, Pu_sum]
  exact sm_congr fun x hx => by rw [e x hx]
theorem Qu_congr : ∀ {n u : Nat} {g h : Nat → Int}, (∀ x, x < 2 ^ n → g x = h x) → Qu n u g = Qu n u h
  | 0, _, g, h, e => e 0 (by simp)
  | n + 1, u, g, h, e => by
    rw [Nat.pow_succ] at e
    rw [Qu, Qu, Qu_congr (n := n) (u := u / 2) (g := fun x => g (x * 2)) (h := fun x => h (x * 2)) fun x hx => e _ (by omega), Qu_congr (n := n) (u := u / 2) (g := fun x => g (x * 2 + 1)) (h := fun x => h (x * 2 + 1)) fun x hx => e _ (by omega)]
theorem Qu_add : ∀ (n u : Nat) (g h : Nat → Int), Qu n u (fun x => g x + h x) = Qu n u g + Qu n u h
  | 0, _, _, _ => rfl
  | n + 1, u, g, h => by
    rw [Qu, Qu, Qu, Qu_add n, Qu_add n]
    split <;> omega
theorem Qu_mul (c : Int) : ∀ (n u : Nat) (g : Nat → Int), Qu n u (fun x => c * g x) = c * Qu n u g
  | 0, _, _ => rfl
  | n + 1, u, g => by
    rw [Qu, Qu, Qu_mul c n, Qu_mul c n]
    split <;> grind
/-- Poisson: what a spectrum sums up to beside u. -/
theorem poisson : ∀ (n u : Nat) (g : Nat → Int), Qu n u (Wh n g) = 2 ^ (n - wtk n u) * Pu n u g
  | 0, _, _ => by simp [Qu, Wh, Pu, wtk]
  | n + 1, u, g => by
    have hw := wtk_le n (u / 2)
    have e1 : Qu n (u / 2) (fun x => Wh (n + 1) g (x * 2)) = Qu n (u / 2) (Wh n fun x => g (x * 2)) + Qu n (u / 2) (Wh n fun x => g (x * 2 + 1)) := by
      rw [← Qu_add]
      exact Qu_congr fun x _ => Wh_even n g x
    have e2 : Qu n (u / 2) (fun x => Wh (n + 1) g (x * 2 + 1)) = Qu n (u / 2) (Wh n fun x => g (x * 2)) + (-1) * Qu n (u / 2) (Wh n fun x => g (x * 2 + 1)) := by
      rw [← Qu_mul, ← Qu_add]
      exact Qu_congr fun x _ => by rw [Wh_odd]; omega
    rw [Qu, Pu, wtk, e1, e2, poisson n, poisson n]
    rcases Nat.mod_two_eq_zero_or_one u with h | h
    · rw [if_neg (by omega), if_neg (by omega), h, Nat.zero_add, show n + 1 - wtk n (u / 2) = n - wtk n (u / 2) + 1 by omega, Int.pow_succ]
      grind
    · rw [if_pos h, if_pos h, h, show n + 1 - (1 + wtk n (u / 2)) = n - wtk n (u / 2) by omega]
      grind
theorem Qu_nil : ∀ {n u : Nat} {h : Nat → Int}, (∀ a, a < 2 ^ n → wtk n a + wtk n u ≤ n → h a = 0) → Qu n u h = 0
  | 0, _, h, k => k 0 (by simp) (by simp [wtk])
  | n + 1, u, h, k => by
    rw [Nat.pow_succ] at k
    rw [Qu, Qu_nil (n := n) (u := u / 2) (h := fun x => h (x * 2)) fun a ha hw => k _ (by omega) (by rw [wtk, wtk, show a * 2 % 2 = 0 by omega, show a * 2 / 2 = a by omega]; omega)]
    split
    · rfl
    · rename_i hu
      rw [Qu_nil (n := n) (u := u / 2) (h := fun x => h (x * 2 + 1)) fun a ha hw => k _ (by omega) (by rw [wtk, wtk, show (a * 2 + 1) % 2 = 1 by omega, show (a * 2 + 1) / 2 = a by omega]; omega)]
      rfl
theorem Qu_zero : ∀ {n u : Nat} {h : Nat → Int}, (∀ a, a < 2 ^ n → a ≠ 0 → wtk n a + wtk n u ≤ n → h a = 0) → Qu n u h = h 0
  | 0, _, h, k => rfl
  | n + 1, u, h, k => by
    rw [Nat.pow_succ] at k
    rw [Qu, Qu_zero (n := n) (u := u / 2) (h := fun x => h (x * 2)) fun a ha h0 hw => k _ (by omega) (by omega) (by rw [wtk, wtk, show a * 2 % 2 = 0 by omega, show a * 2 / 2 = a by omega]; omega)]
    split
    · simp
    · rename_i hu
      rw [Qu_nil (n := n) (u := u / 2) (h := fun x => h (x * 2 + 1)) fun a ha hw => k _ (by omega) (by omega) (by rw [wtk, wtk, show (a * 2 + 1) % 2 = 1 by omega, show (a * 2 + 1) / 2 = a by omega]; omega)]
      simp
theorem one_less : ∀ {n u : Nat}, 1 ≤ wtk n u → ∃ u', wtk n u' + 1 = wtk n u
  | 0, _, h => by simp [wtk] at h
  | n + 1, u, h => by
    rcases Nat.mod_two_eq_zero_or_one u with k | k
    · rw [wtk, k, Nat.zero_add] at h
      obtain ⟨v, hv⟩ := one_less h
      refine ⟨v * 2, ?_⟩
      rw [wtk, wtk, k, show v * 2 % 2 = 0 by omega, show v * 2 / 2 = v by omega]
      omega
    · refine ⟨u / 2 * 2, ?_⟩
      rw [wtk, wtk, k, show u / 2 * 2 % 2 = 0 by omega, show u / 2 * 2 / 2 = u / 2 by omega]
      omega
/-- The signs of a table. -/
def tg (t : Nat → Int) (x : Nat) : Int := 1 - 2 * t x
theorem Pu_tg (n u : Nat) (t : Nat → Int) : Pu n u (tg t) = 2 ^ wtk n u - 2 * Pu n u t := by
  have e : Pu n u (tg t) = Pu n u (fun x => 1 + (-2) * t x) := Pu_congr fun x _ => by unfold tg; omega
  rw [e, Pu_add n u (fun _ => 1) (fun x => (-2) * t x), Pu_one, Pu_mul]
  omega
/-- Siegenthaler. -/
theorem siegenthaler {n m u : Nat} {t : Nat → Int} (hS : ∀ a, a < 2 ^ n → a ≠ 0 → wtk n a ≤ m → Wh n (tg t) a = 0) (hm : m ≤ n) (hu : n < wtk n u + m) : Pu n u t % 2 = 0 := by
  have hw := wtk_le n u
  have h1 : 1 ≤ wtk n u := by omega
  obtain ⟨u', hu'⟩ := one_less h1
  have z : ∀ v, n ≤ wtk n v + m → 2 ^ (n - wtk n v) * Pu n v (tg t) = Wh n (tg t) 0 := fun v hv => by
    rw [← poisson]
    exact Qu_zero fun a ha h0 hb => hS a ha h0 (by omega)
  have e1 := z u (by omega)
  have e2 := z u' (by omega)
  rw [Pu_tg] at e1 e2
  rw [show n - wtk n u' = (n - wtk n u) + 1 by omega, ← e1, Int.pow_succ] at e2
  rw [show wtk n u = wtk n u' + 1 by omega, Int.pow_succ] at e2
  have hp : (2 : Int) ^ (n - (wtk n u' + 1)) ≠ 0 := by
    have : (0 : Int) < 2 ^ (n - (wtk n u' + 1)) := Int.pow_pos (by decide)
    omega
  have e3 : (2 : Int) * (2 ^ wtk n u' - 2 * Pu n u' t) = 2 ^ wtk n u' * 2 - 2 * Pu n u t := by
    apply Int.eq_of_mul_eq_mul_left hp
    rw [← e2]
    grind
  omega
theorem Qu_odd : ∀ {n u : Nat} {s : Nat → Int}, (∀ a, a < 2 ^ n → Sg (s a)) → (Qu n u s - 2 ^ (n - wtk n u)) % 2 = 0
  | 0, _, s, h => by
    rcases h 0 (by simp) with e | e <;> simp [Qu, wtk, e]
  | n + 1, u, s, h => by
    have hw := wtk_le n (u / 2)
    rw [Nat.pow_succ] at h
    have e1 := Qu_odd (n := n) (u := u / 2) (s := fun x => s (x * 2)) fun a ha => h _ (by omega)
    have e2 := Qu_odd (n := n) (u := u / 2) (s := fun x => s (x * 2 + 1)) fun a ha => h _ (by omega)
    rw [Qu, wtk]
    rcases Nat.mod_two_eq_zero_or_one u with k | k
    · rw [if_neg (by omega), k, Nat.zero_add, show n + 1 - wtk n (u / 2) = n - wtk n (u / 2) + 1 by omega, Int.pow_succ]
      omega
    · rw [if_pos k, k, show n + 1 - (1 + wtk n (u / 2)) = n - wtk n (u / 2) by omega]
      omega
theorem two_pow_even {k : Nat} (h : 1 ≤ k) : (2 : Int) ^ k % 2 = 0 := by
  obtain ⟨j, rfl⟩ : ∃ j, k = j + 1 := ⟨k - 1, by omega⟩
  rw [Int.pow_succ]; omega
/-- Rothaus: the degree. -/
theorem rothaus {k u : Nat} {t s : Nat → Int} (hk : 2 ≤ k) (hs : ∀ a, a < 2 ^ (2 * k) → Sg (s a)) (hW : ∀ a, a < 2 ^ (2 * k) → Wh (2 * k) (tg t) a = 2 ^ k * s a) (hu : k < wtk (2 * k) u) : Pu (2 * k) u t % 2 = 0 := by
  have hw := wtk_le (2 * k) u
  have e1 := poisson (2 * k) u (tg t)
  rw [Qu_congr hW, Qu_mul, Pu_tg] at e1
  have e2 := Qu_odd (n := 2 * k) (u := u) hs
  generalize Qu (2 * k) u s = K at *
  generalize Pu (2 * k) u t = T at *
  generalize wtk (2 * k) u = w at *
  have hp : (2 : Int) ^ (2 * k - w) ≠ 0 := by
    have : (0 : Int) < 2 ^ (2 * k - w) := Int.pow_pos (by decide)
    omega
  have e3 : (2 : Int) ^ (w - k) * K = 2 ^ w - 2 * T := by
    apply Int.eq_of_mul_eq_mul_left hp
    rw [← e1, ← Int.mul_assoc, ← Int.pow_add, show 2 * k - w + (w - k) = k by omega]
  have e4 : (2 : Int) ^ w = 2 * 2 ^ (w - 1) := by
    conv => lhs; rw [show w = w - 1 + 1 by omega]
    rw [Int.pow_succ]; omega
  have e5 : (2 : Int) ^ (w - k) = 2 * 2 ^ (w - k - 1) := by
    conv => lhs; rw [show w - k = w - k - 1 + 1 by omega]
    rw [Int.pow_succ]; omega
  rw [e4, e5, Int.mul_assoc] at e3
  have e6 : T = 2 ^ (w - 1) - 2 ^ (w - k - 1) * K := by omega
  have p1 := two_pow_even (k := w - 1) (by omega)
  by_cases hc : w = k + 1
  · subst hc
    rw [show k + 1 - k - 1 = 0 by omega] at e6
    have p2 := two_pow_even (k := 2 * k - (k + 1)) (by omega)
    simp at e6
    simp at p1
    omega
  · have p3 := two_pow_even (k := w - k - 1) (by omega)
    have p4 : (2 ^ (w - k - 1) * K) % 2 = 0 := by rw [Int.mul_emod, p3]; simp
    omega
/-- Sums of products lead back. -/
theorem Pu_Pu : ∀ (n u : Nat) (t : Nat → Int), u < 2 ^ n → (Pu n u (fun x => Pu n x t) - t u) % 2 = 0
  | 0, u, t, h => by
    obtain rfl : u = 0 := by simpa using h
    simp [Pu]
  | n + 1, u, t, h => by
    rw [Nat.pow_succ] at h
    have e1 := Pu_Pu n (u / 2) (fun x => t (x * 2)) (by omega)
    have e2 := Pu_Pu n (u / 2) (fun x => t (x * 2 + 1)) (by omega)
    have f1 : Pu n (u / 2) (fun x => Pu (n + 1) (x * 2) t) = Pu n (u / 2) (fun x => Pu n x fun x => t (x * 2)) := Pu_congr fun x _ => by
      rw [Pu, show x * 2 / 2 = x by omega, if_neg (by omega)]; omega
    have f2 : Pu n (u / 2) (fun x => Pu (n + 1) (x * 2 + 1) t) = Pu n (u / 2) (fun x => Pu n x fun x => t (x * 2)) + Pu n (u / 2) (fun x => Pu n x fun x => t (x * 2 + 1)) := by
      rw [← Pu_add]
      exact Pu_congr fun x _ => by rw [Pu, show (x * 2 + 1) / 2 = x by omega, if_pos (by omega)]
    rw [Pu, f1, f2]
    rcases Nat.mod_two_eq_zero_or_one u with k | k
    · rw [if_neg (by omega)]
      rw [show u / 2 * 2 = u by omega] at e1
      omega
    · rw [if_pos k]
      rw [show u / 2 * 2 + 1 = u by omega] at e2
      omega
theorem Pu_even : ∀ {n u : Nat} {f g : Nat → Int}, (∀ x, x < 2 ^ n → (f x - g x) % 2 = 0) → (Pu n u f - Pu n u g) % 2 = 0
  | 0, _, f, g, h => h 0 (by simp)
  | n + 1, u, f, g, h => by
    rw [Nat.pow_succ] at h
    have e1 := Pu_even (n := n) (u := u / 2) (f := fun x => f (x * 2)) (g := fun x => g (x * 2)) fun x hx => h _ (by omega)
    have e2 := Pu_even (n := n) (u := u / 2) (f := fun x => f (x * 2 + 1)) (g := fun x => g (x * 2 + 1)) fun x hx => h _ (by omega)
    rw [Pu, Pu]
    split <;> omega
/-- The sum of products of a table. -/
def anF (n : Nat) (t : Nat → Int) (u : Nat) : Int := Pu n u t % 2
theorem an_an {n u : Nat} {t : Nat → Int} (hu : u < 2 ^ n) (ht : t u = 0 ∨ t u = 1) : anF n (anF n t) u = t u := by
  have e1 := Pu_Pu n u t hu
  have e2 := Pu_even (n := n) (u := u) (f := anF n t) (g := fun x => Pu n x t) fun x _ => by unfold anF; omega
  unfold anF at e2 ⊢
  omega
end Go.Proofs.YtioggiapkkeloaaDoor
