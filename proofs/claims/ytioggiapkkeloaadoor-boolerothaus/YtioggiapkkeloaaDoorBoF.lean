/- Folding: what pairs of places that part in one bit alone come to, bit by bit; nothing of the program. -/
import Derived.Test.YtioggiapkkeloaaDoorBoR
namespace Go.Proofs.YtioggiapkkeloaaDoor

/-- One round: all pairs that part in the bit k. -/
def rdF {T : Type} (p1 p2 : T → T → T) (k : Nat) (F : Nat → T) (x : Nat) : T := if x / 2 ^ k % 2 = 0 then p1 (F x) (F (x + 2 ^ k)) else p2 (F (x - 2 ^ k)) (F x)
/-- The first rounds. -/
def fS {T : Type} (p1 p2 : T → T → T) (F : Nat → T) : Nat → Nat → T
  | 0 => F
  | k + 1 => rdF p1 p2 k (fS p1 p2 F k)
theorem rdF_half {T : Type} (p1 p2 : T → T → T) (k : Nat) (H : Nat → T) (y : Nat) {b : Nat} (hb : b < 2) : rdF p1 p2 (k + 1) H (y * 2 + b) = rdF p1 p2 k (fun z => H (z * 2 + b)) y := by
  unfold rdF
  have e1 : (y * 2 + b) / 2 ^ (k + 1) = y / 2 ^ k := by
    rw [Nat.pow_succ, Nat.mul_comm (2 ^ k) 2, ← Nat.div_div_eq_div_mul, show (y * 2 + b) / 2 = y by omega]
  rw [e1]
  have e2 : y * 2 + b + 2 ^ (k + 1) = (y + 2 ^ k) * 2 + b := by rw [Nat.pow_succ]; omega
  rw [e2]
  by_cases h : y / 2 ^ k % 2 = 0
  · rw [if_pos h, if_pos h]
  · rw [if_neg h, if_neg h]
    have hy : 2 ^ k ≤ y := by
      apply Nat.le_of_not_lt
      intro c
      rw [Nat.div_eq_of_lt c] at h
      exact h rfl
    have e3 : y * 2 + b - 2 ^ (k + 1) = (y - 2 ^ k) * 2 + b := by rw [Nat.pow_succ]; omega
    rw [e3]
theorem fS_half {T : Type} (p1 p2 : T → T → T) (F : Nat → T) {b : Nat} (hb : b < 2) : ∀ (k y : Nat), fS p1 p2 F (k + 1) (y * 2 + b) = fS p1 p2 (fun z => rdF p1 p2 0 F (z * 2 + b)) k y
  | 0, y => rfl
  | k + 1, y => by
    rw [fS, rdF_half p1 p2 k _ y hb]
    show rdF p1 p2 k (fun z => fS p1 p2 F (k + 1) (z * 2 + b)) y = rdF p1 p2 k (fS p1 p2 (fun z => rdF p1 p2 0 F (z * 2 + b)) k) y
    congr 1
    funext z
    exact fS_half p1 p2 F hb k z
theorem rd_even {T : Type} (p1 p2 : T → T → T) (F : Nat → T) (z : Nat) : rdF p1 p2 0 F (z * 2) = p1 (F (z * 2)) (F (z * 2 + 1)) := by
  unfold rdF
  rw [if_pos (by simp), Nat.pow_zero]
theorem rd_odd {T : Type} (p1 p2 : T → T → T) (F : Nat → T) (z : Nat) : rdF p1 p2 0 F (z * 2 + 1) = p2 (F (z * 2)) (F (z * 2 + 1)) := by
  unfold rdF
  rw [if_neg (by rw [Nat.pow_zero, Nat.div_one]; omega), Nat.pow_zero, Nat.add_sub_cancel]
/-- Sums and differences come to the spectrum. -/
theorem fS_Wh : ∀ (n : Nat) (F : Nat → Int) (a : Nat), a < 2 ^ n → fS (· + ·) (· - ·) F n a = Wh n F a
  | 0, F, a, h => by
    obtain rfl : a = 0 := by simpa using h
    rfl
  | n + 1, F, a, h => by
    rw [Nat.pow_succ] at h
    rcases Nat.mod_two_eq_zero_or_one a with k | k
    · obtain ⟨y, rfl⟩ : ∃ y, a = y * 2 := ⟨a / 2, by omega⟩
      have : fS (· + ·) (· - ·) F (n + 1) (y * 2) = _ := fS_half (· + ·) (· - ·) F (b := 0) (by decide) n y
      rw [this, fS_Wh n _ y (by omega), Wh_even, ← Wh_add]
      exact Wh_congr y fun x _ => rd_even _ _ F x
    · obtain ⟨y, rfl⟩ : ∃ y, a = y * 2 + 1 := ⟨a / 2, by omega⟩
      rw [fS_half (· + ·) (· - ·) F (b := 1) (by decide) n y, fS_Wh n _ y (by omega), Wh_odd]
      rw [Wh_congr (h := fun x => F (x * 2) + (-1) * F (x * 2 + 1)) y fun x _ => (rd_odd _ _ F x).trans (by omega), Wh_add, Wh_mul]
      omega
/-- 1 or 0. -/
def b2 (b : Bool) : Int := if b then 1 else 0
theorem b2_bne (a b : Bool) : (b2 (a != b) - (b2 a + b2 b)) % 2 = 0 := by cases a <;> cases b <;> rfl
/-- Sums modulo 2 come to the sum of products. -/
theorem fS_an : ∀ (n : Nat) (F : Nat → Bool) (u : Nat), u < 2 ^ n → (b2 (fS (fun a _ => a) (fun a b => a != b) F n u) - Pu n u (fun x => b2 (F x))) % 2 = 0
  | 0, F, u, h => by
    obtain rfl : u = 0 := by simpa using h
    simp [fS, Pu]
  | n + 1, F, u, h => by
    rw [Nat.pow_succ] at h
    rcases Nat.mod_two_eq_zero_or_one u with k | k
    · obtain ⟨y, rfl⟩ : ∃ y, u = y * 2 := ⟨u / 2, by omega⟩
      have e : fS (fun a _ => a) (fun a b => a != b) F (n + 1) (y * 2) = _ := fS_half (fun a _ => a) (fun a b => a != b) F (b := 0) (by decide) n y
      have ih := fS_an n (fun z => rdF (fun a _ => a) (fun a b => a != b) 0 F (z * 2)) y (by omega)
      rw [e, Pu, if_neg (by omega), show y * 2 / 2 = y by omega, Int.add_zero]
      have e2 : Pu n y (fun x => b2 (rdF (fun a _ => a) (fun a b => a != b) 0 F (x * 2))) = Pu n y fun x => b2 (F (x * 2)) := Pu_congr fun x _ => by rw [rd_even]
      rw [e2] at ih
      exact ih
    · obtain ⟨y, rfl⟩ : ∃ y, u = y * 2 + 1 := ⟨u / 2, by omega⟩
      rw [fS_half (fun a _ => a) (fun a b => a != b) F (b := 1) (by decide) n y]
      have ih := fS_an n (fun z => rdF (fun a _ => a) (fun a b => a != b) 0 F (z * 2 + 1)) y (by omega)
      have e2 := Pu_even (n := n) (u := y) (f := fun x => b2 (rdF (fun a _ => a) (fun a b => a != b) 0 F (x * 2 + 1))) (g := fun x => b2 (F (x * 2)) + b2 (F (x * 2 + 1))) fun x _ => by
        rw [rd_odd]; exact b2_bne _ _
      rw [Pu_add] at e2
      rw [Pu, if_pos k, show (y * 2 + 1) / 2 = y by omega]
      omega
theorem fS_anF {n u : Nat} {l : List Int} (G : GoodT n l) (hu : u < 2 ^ n) : b2 (fS (fun a _ => a) (fun a b => a != b) (fun x => tf l x == 1) n u) = anF n (tf l) u := by
  have h := fS_an n (fun x => tf l x == 1) u hu
  have e : Pu n u (fun x => b2 (tf l x == 1)) = Pu n u (tf l) := Pu_congr fun x hx => by
    rcases G.bit x hx with k | k
    · show b2 (tf l x == 1) = tf l x
      rw [show tf l x = 0 from k]; rfl
    · show b2 (tf l x == 1) = tf l x
      rw [show tf l x = 1 from k]; rfl
  rw [e] at h
  unfold anF
  have hb : ∀ b, 0 ≤ b2 b ∧ b2 b ≤ 1 := fun b => by cases b <;> decide
  have := hb (fS (fun a _ => a) (fun a b => a != b) (fun x => tf l x == 1) n u)
  omega
/-- The numbers of a round of folding stay within twice the bound. -/
theorem fS_abs {F : Nat → Int} {c : Int} : ∀ (k : Nat), (∀ x, -c ≤ F x ∧ F x ≤ c) → ∀ x, -(2 ^ k * c) ≤ fS (· + ·) (· - ·) F k x ∧ fS (· + ·) (· - ·) F k x ≤ 2 ^ k * c
  | 0, h, x => by have := h x; simpa [fS] using this
  | k + 1, h, x => by
    have hp : (2 : Int) ^ (k + 1) = 2 * 2 ^ k := by rw [Int.pow_succ]; omega
    have ih := fS_abs k h
    generalize hA : (2 : Int) ^ k * c = A at *
    have e : (2 : Int) ^ (k + 1) * c = 2 * A := by rw [hp, Int.mul_assoc, hA]
    rw [e, fS]
    unfold rdF
    split
    · have h1 := ih x
      have h2 := ih (x + 2 ^ k)
      dsimp only
      omega
    · have h1 := ih x
      have h2 := ih (x - 2 ^ k)
      dsimp only
      omega
/-- A round on its way: the pairs whose lower place is below i are done. -/
def onF {T : Type} (p1 p2 : T → T → T) (k : Nat) (F : Nat → T) (i x : Nat) : T := if (if x / 2 ^ k % 2 = 0 then x else x - 2 ^ k) < i then rdF p1 p2 k F x else F x
theorem onF_nil {T : Type} (p1 p2 : T → T → T) (k : Nat) (F : Nat → T) (x : Nat) : onF p1 p2 k F 0 x = F x := by unfold onF; rw [if_neg (by omega)]
theorem onF_full {T : Type} (p1 p2 : T → T → T) (k : Nat) (F : Nat → T) {i x : Nat} (h : x < i) : onF p1 p2 k F i x = rdF p1 p2 k F x := by
  unfold onF
  rw [if_pos]
  split
  · exact h
  · exact Nat.lt_of_le_of_lt (Nat.sub_le _ _) h
theorem bit_up {k i : Nat} (h : i / 2 ^ k % 2 = 0) : (i + 2 ^ k) / 2 ^ k % 2 = 1 := by
  rw [Nat.add_div_right _ (Nat.two_pow_pos k)]; omega
theorem bit_le {k x : Nat} (h : ¬ x / 2 ^ k % 2 = 0) : 2 ^ k ≤ x := by
  apply Nat.le_of_not_lt
  intro c
  rw [Nat.div_eq_of_lt c] at h
  exact h rfl
theorem onF_low {T : Type} (p1 p2 : T → T → T) (k : Nat) (F : Nat → T) {i : Nat} (h : i / 2 ^ k % 2 = 0) : onF p1 p2 k F i i = F i ∧ onF p1 p2 k F i (i + 2 ^ k) = F (i + 2 ^ k) := by
  unfold onF
  constructor
  · rw [if_pos h, if_neg (by omega)]
  · rw [if_neg (by rw [if_neg (by rw [bit_up h]; decide)]; omega)]
theorem onF_skip {T : Type} (p1 p2 : T → T → T) (k : Nat) (F : Nat → T) {i : Nat} (h : ¬ i / 2 ^ k % 2 = 0) (x : Nat) : onF p1 p2 k F (i + 1) x = onF p1 p2 k F i x := by
  unfold onF
  by_cases hx : x / 2 ^ k % 2 = 0
  · rw [if_pos hx]
    by_cases e : x = i
    · subst e; exact (h hx).elim
    · by_cases c : x < i
      · rw [if_pos c, if_pos (by omega)]
      · rw [if_neg c, if_neg (by omega)]
  · rw [if_neg hx]
    have hl := bit_le hx
    by_cases e : x - 2 ^ k = i
    · exfalso
      have : x = i + 2 ^ k := by omega
      subst this
      rw [Nat.add_div_right _ (Nat.two_pow_pos k)] at hx
      omega
    · by_cases c : x - 2 ^ k < i
      · rw [if_pos c, if_pos (by omega)]
      · rw [if_neg c, if_neg (by omega)]
theorem onF_step {T : Type} (p1 p2 : T → T → T) (k : Nat) (F : Nat → T) {i : Nat} (h : i / 2 ^ k % 2 = 0) (x : Nat) : onF p1 p2 k F (i + 1) x = if x = i + 2 ^ k then p2 (F i) (F (i + 2 ^ k)) else if x = i then p1 (F i) (F (i + 2 ^ k)) else onF p1 p2 k F i x := by
  have hp := Nat.two_pow_pos k
  by_cases e1 : x = i + 2 ^ k
  · subst e1
    rw [if_pos rfl]
    unfold onF rdF
    have hb := bit_up h
    rw [if_neg (c := (i + 2 ^ k) / 2 ^ k % 2 = 0) (by omega), if_neg (c := (i + 2 ^ k) / 2 ^ k % 2 = 0) (by omega), Nat.add_sub_cancel, if_pos (by omega)]
  · rw [if_neg e1]
    by_cases e2 : x = i
    · subst e2
      rw [if_pos rfl]
      unfold onF rdF
      rw [if_pos h, if_pos (by omega), if_pos h]
    · rw [if_neg e2]
      unfold onF
      by_cases hx : x / 2 ^ k % 2 = 0
      · rw [if_pos hx]
        by_cases c : x < i
        · rw [if_pos c, if_pos (by omega)]
        · rw [if_neg c, if_neg (by omega)]
      · rw [if_neg hx]
        have hl := bit_le hx
        by_cases c : x - 2 ^ k < i
        · rw [if_pos c, if_pos (by omega)]
        · rw [if_neg c, if_neg (by omega)]
/-- The upper place of a pair is a place, too. -/
theorem up_lt {n k i : Nat} (hk : k < n) (hi : i < 2 ^ n) (h : i / 2 ^ k % 2 = 0) : i + 2 ^ k < 2 ^ n := by
  obtain ⟨d, rfl⟩ : ∃ d, n = k + 1 + d := ⟨n - k - 1, by omega⟩
  have hp := Nat.two_pow_pos k
  have e : 2 ^ (k + 1 + d) = 2 ^ k * (2 * 2 ^ d) := by rw [Nat.pow_add, Nat.pow_succ, Nat.mul_assoc]
  rw [e] at hi ⊢
  have h1 : i / 2 ^ k < 2 * 2 ^ d := Nat.div_lt_of_lt_mul hi
  have h2 : i / 2 ^ k + 1 < 2 * 2 ^ d := by omega
  have h3 : (i + 2 ^ k) / 2 ^ k < 2 * 2 ^ d := by rw [Nat.add_div_right _ hp]; exact h2
  have := (Nat.div_lt_iff_lt_mul hp).1 h3
  rwa [Nat.mul_comm] at this
theorem bit_tab : ∀ (i : Fin 256) (k : Fin 8), (i.val &&& 2 ^ k.val = if i.val / 2 ^ k.val % 2 = 0 then 0 else 2 ^ k.val) ∧ (i.val / 2 ^ k.val % 2 = 0 → i.val ||| 2 ^ k.val = i.val + 2 ^ k.val) := by decide +kernel
theorem and_bit {i k : Nat} (hi : i < 999 - 743) (hk : k < 8) : i &&& 2 ^ k = if i / 2 ^ k % 2 = 0 then 0 else 2 ^ k := (bit_tab ⟨i, hi⟩ ⟨k, hk⟩).1
theorem or_bit {i k : Nat} (hi : i < 999 - 743) (hk : k < 8) (h : i / 2 ^ k % 2 = 0) : i ||| 2 ^ k = i + 2 ^ k := (bit_tab ⟨i, hi⟩ ⟨k, hk⟩).2 h
end Go.Proofs.YtioggiapkkeloaaDoor
