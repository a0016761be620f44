/- Lubell, Yamamoto and Meshalkin: of sets that lie apart the ways through them are no more than all ways. -/
import Derived.RowKit
namespace Go.Proofs.Ytmogmkdcplgfjaa

def sumN : Nat → (Nat → Nat) → Nat
  | 0, _ => 0
  | n + 1, f => sumN n f + f n
theorem sumN_congr : ∀ (n : Nat) {f g : Nat → Nat}, (∀ x, x < n → f x = g x) → sumN n f = sumN n g
  | 0, _, _, _ => rfl
  | n + 1, f, g, h => by
    show sumN n f + f n = sumN n g + g n
    rw [sumN_congr n fun x hx => h x (by omega), h n (by omega)]
theorem sumN_le : ∀ (n : Nat) {f g : Nat → Nat}, (∀ x, x < n → f x ≤ g x) → sumN n f ≤ sumN n g
  | 0, _, _, _ => Nat.le_refl _
  | n + 1, f, g, h => Nat.add_le_add (sumN_le n fun x hx => h x (by omega)) (h n (by omega))
theorem sumN_add : ∀ (n : Nat) (f g : Nat → Nat), sumN n (fun x => f x + g x) = sumN n f + sumN n g
  | 0, _, _ => rfl
  | n + 1, f, g => by
    show sumN n _ + (f n + g n) = (sumN n f + f n) + (sumN n g + g n)
    rw [sumN_add n f g]; omega
theorem sumN_mul (c : Nat) : ∀ (n : Nat) (f : Nat → Nat), sumN n (fun x => f x * c) = sumN n f * c
  | 0, _ => (Nat.zero_mul c).symm
  | n + 1, f => by
    show sumN n _ + f n * c = (sumN n f + f n) * c
    rw [sumN_mul c n f, Nat.add_mul]
theorem sumN_zero : ∀ (n : Nat) {f : Nat → Nat}, (∀ x, x < n → f x = 0) → sumN n f = 0
  | 0, _, _ => rfl
  | n + 1, f, h => by
    show sumN n f + f n = 0
    rw [sumN_zero n fun x hx => h x (by omega), h n (by omega)]
/-- How many things it has. -/
def szB (n : Nat) (P : Nat → Bool) : Nat := sumN n fun x => (P x).toNat
/-- Does it lie within? -/
def inB (n : Nat) (B P : Nat → Bool) : Bool := (List.range n).all fun x => !(B x) || P x
theorem inB_is {n : Nat} {B P : Nat → Bool} : inB n B P = true ↔ ∀ x, x < n → B x = true → P x = true := by
  unfold inB
  rw [List.all_eq_true]
  constructor
  · intro h x hx hB
    have := h x (List.mem_range.2 hx)
    rw [hB] at this
    simpa using this
  · intro h x hx
    cases e : B x with
    | false => rfl
    | true => rw [h x (List.mem_range.1 hx) e]; rfl
theorem sz_le {n : Nat} {B P : Nat → Bool} (h : inB n B P = true) : szB n B ≤ szB n P :=
  sumN_le n fun x hx => by
    cases e : B x with
    | false => exact Nat.zero_le _
    | true => rw [inB_is.1 h x hx e]; exact Nat.le_refl _
/-- What it leaves out. -/
theorem sz_rest : ∀ (n : Nat) {B P : Nat → Bool}, (∀ x, x < n → B x = true → P x = true) → szB n B + szB n (fun x => P x && !(B x)) = szB n P
  | 0, _, _, _ => rfl
  | n + 1, B, P, h => by
    have ih := sz_rest n fun x hx => h x (by omega)
    have hn := h n (by omega)
    show (szB n B + (B n).toNat) + (szB n (fun x => P x && !(B x)) + (P n && !(B n)).toNat) = szB n P + (P n).toNat
    have : (B n).toNat + (P n && !(B n)).toNat = (P n).toNat := by
      cases e : B n with
      | false => cases P n <;> rfl
      | true => rw [hn e]; rfl
    omega
theorem sz_none : ∀ (n : Nat) {P : Nat → Bool}, szB n P = 0 → ∀ x, x < n → P x = false
  | 0, _, _, x, hx => absurd hx (Nat.not_lt_zero _)
  | n + 1, P, h, x, hx => by
    have h : szB n P + (P n).toNat = 0 := h
    by_cases e : x = n
    · rw [e]
      cases f : P n with
      | false => rfl
      | true => rw [f] at h; cases h
    · exact sz_none n (by omega) x (by omega)
theorem in_back {n : Nat} {B P : Nat → Bool} (h : inB n B P = true) (e : szB n B = szB n P) : inB n P B = true := by
  have h1 := sz_rest n (inB_is.1 h)
  have h2 := sz_none n (P := fun x => P x && !(B x)) (by omega)
  refine inB_is.2 fun x hx hP => ?_
  have := h2 x hx
  rw [hP] at this
  simpa using this
theorem in_trans {n : Nat} {A B C : Nat → Bool} (h1 : inB n A B = true) (h2 : inB n B C = true) : inB n A C = true :=
  inB_is.2 fun x hx h => inB_is.1 h2 x hx (inB_is.1 h1 x hx h)
/-- Without one. -/
def cutB (P : Nat → Bool) (x : Nat) : Nat → Bool := fun y => P y && !(y == x)
theorem sz_cut : ∀ (n : Nat) {P : Nat → Bool} {x : Nat}, x < n → P x = true → szB n (cutB P x) + 1 = szB n P
  | 0, _, x, hx, _ => absurd hx (Nat.not_lt_zero _)
  | n + 1, P, x, hx, h => by
    show szB n (cutB P x) + (cutB P x n).toNat + 1 = szB n P + (P n).toNat
    by_cases e : x = n
    · subst e
      have h1 : szB x (cutB P x) = szB x P := sumN_congr x fun y hy => by
        unfold cutB
        rw [show (y == x) = false from by simp; omega, Bool.not_false, Bool.and_true]
      have h2 : cutB P x x = false := by unfold cutB; simp
      rw [h1, h2, h]; rfl
    · have ih := sz_cut n (P := P) (x := x) (by omega) h
      have h2 : cutB P x n = P n := by
        unfold cutB
        rw [show (n == x) = false from by simp; omega, Bool.not_false, Bool.and_true]
      rw [h2]
      omega
theorem in_cut {n : Nat} {B P : Nat → Bool} {x : Nat} (hx : x < n) : inB n B (cutB P x) = (inB n B P && !(B x)) := by
  cases e : inB n B (cutB P x) with
  | true =>
    have h := inB_is.1 e
    have h1 : inB n B P = true := inB_is.2 fun y hy hB => by
      have := h y hy hB
      unfold cutB at this
      exact (Bool.and_eq_true_iff.1 this).1
    have h2 : B x = false := by
      cases f : B x with
      | false => rfl
      | true =>
        have := h x hx f
        unfold cutB at this
        simp at this
    rw [h1, h2]; rfl
  | false =>
    cases f : inB n B P with
    | false => rfl
    | true =>
      cases g : B x with
      | true => rfl
      | false =>
        exfalso
        have : inB n B (cutB P x) = true := inB_is.2 fun y hy hB => by
          unfold cutB
          rw [inB_is.1 f y hy hB]
          have : y ≠ x := fun h => by rw [h, g] at hB; cases hB
          simpa using this
        rw [e] at this; cases this
def fac : Nat → Nat
  | 0 => 1
  | n + 1 => (n + 1) * fac n
/-- Ways through a set, within another. -/
def trm (n : Nat) (P B : Nat → Bool) : Nat := if inB n B P = true then fac (szB n B) * fac (szB n P - szB n B) else 0
def lsN (L : List (Nat → Bool)) (f : (Nat → Bool) → Nat) : Nat := match L with
  | [] => 0
  | B :: L => f B + lsN L f
theorem lsN_swap (n : Nat) (g : Nat → (Nat → Bool) → Nat) : ∀ L, lsN L (fun B => sumN n fun x => g x B) = sumN n fun x => lsN L (g x)
  | [] => (sumN_zero n fun _ _ => rfl).symm
  | B :: L => by
    show sumN n (fun x => g x B) + lsN L (fun B => sumN n fun x => g x B) = _
    rw [lsN_swap n g L, ← sumN_add]
    rfl
theorem lsN_congr {f g : (Nat → Bool) → Nat} : ∀ {L : List (Nat → Bool)}, (∀ B ∈ L, f B = g B) → lsN L f = lsN L g
  | [], _ => rfl
  | B :: L, h => by
    show f B + lsN L f = g B + lsN L g
    rw [h B (List.mem_cons_self ..), lsN_congr fun C hC => h C (List.mem_cons_of_mem _ hC)]
theorem lsN_zero {f : (Nat → Bool) → Nat} {L : List (Nat → Bool)} (h : ∀ B ∈ L, f B = 0) : lsN L f = 0 := by
  induction L with
  | nil => rfl
  | cons B L ih =>
    show f B + lsN L f = 0
    rw [h B (List.mem_cons_self ..), ih fun C hC => h C (List.mem_cons_of_mem _ hC)]
theorem lsN_app {f : (Nat → Bool) → Nat} : ∀ (L M : List (Nat → Bool)), lsN (L ++ M) f = lsN L f + lsN M f
  | [], M => (Nat.zero_add _).symm
  | B :: L, M => by
    show f B + lsN (L ++ M) f = f B + lsN L f + lsN M f
    rw [lsN_app L M]; omega
theorem trm_part {n a : Nat} {P B : Nat → Bool} (ha : szB n P = a) (hB : inB n B P = true → szB n B < a) : trm n P B = sumN n fun x => if P x = true then trm n (cutB P x) B else 0 := by
  cases e : inB n B P with
  | false =>
    have h1 : trm n P B = 0 := by unfold trm; rw [e]; rfl
    rw [h1]
    refine (sumN_zero n fun x hx => ?_).symm
    split
    · unfold trm
      rw [in_cut hx, e]; rfl
    · rfl
  | true =>
    have hlt := hB e
    have h1 : trm n P B = fac (szB n B) * fac (a - szB n B) := by unfold trm; rw [if_pos e, ha]
    have h2 : (sumN n fun x => if P x = true then trm n (cutB P x) B else 0) = sumN n fun x => (P x && !(B x)).toNat * (fac (szB n B) * fac (a - 1 - szB n B)) := sumN_congr n fun x hx => by
      cases f : P x with
      | false => simp
      | true =>
        rw [if_pos rfl]
        unfold trm
        rw [in_cut hx, e]
        have := sz_cut n hx f
        cases B x with
        | true => simp
        | false =>
          rw [if_pos (by decide), show szB n (cutB P x) - szB n B = a - 1 - szB n B by omega]
          simp
    rw [h1, h2, sumN_mul]
    have h3 := sz_rest n (inB_is.1 e)
    rw [ha] at h3
    have h4 : (sumN n fun x => (P x && !(B x)).toNat) = a - szB n B := by
      show szB n (fun x => P x && !(B x)) = _
      omega
    rw [h4]
    obtain ⟨d, hd⟩ : ∃ d, a - szB n B = d + 1 := ⟨a - szB n B - 1, by omega⟩
    rw [hd, show a - 1 - szB n B = d by omega]
    show fac (szB n B) * ((d + 1) * fac d) = (d + 1) * (fac (szB n B) * fac d)
    rw [Nat.mul_left_comm]
/-- Sets none of which lies within another. -/
def ApL (n : Nat) (L : List (Nat → Bool)) : Prop := L.Pairwise fun B C => inB n B C = false ∧ inB n C B = false
theorem lym {n : Nat} {L : List (Nat → Bool)} (hL : ApL n L) : ∀ (a : Nat) (P : Nat → Bool), szB n P = a → lsN L (trm n P) ≤ fac a := by
  intro a
  induction a with
  | zero =>
    intro P hP
    by_cases hex : ∃ B ∈ L, inB n B P = true ∧ szB n B = 0
    · exact one hL hP hex
    · rw [lsN_zero fun B hB => by
        unfold trm
        cases e : inB n B P with
        | false => rfl
        | true =>
          have := sz_le e
          exact absurd ⟨B, hB, e, by omega⟩ hex]
      exact Nat.zero_le _
  | succ a ih =>
    intro P hP
    by_cases hex : ∃ B ∈ L, inB n B P = true ∧ szB n B = a + 1
    · exact one hL hP hex
    · rw [lsN_congr (g := fun B => sumN n fun x => if P x = true then trm n (cutB P x) B else 0) fun B hB => trm_part hP fun e => by
        have := sz_le e
        rcases Nat.lt_or_ge (szB n B) (a + 1) with h | h
        · exact h
        · exact absurd ⟨B, hB, e, by omega⟩ hex, lsN_swap n fun x B => if P x = true then trm n (cutB P x) B else 0]
      have h1 : (sumN n fun x => lsN L fun B => if P x = true then trm n (cutB P x) B else 0) ≤ sumN n fun x => (P x).toNat * fac a := sumN_le n fun x hx => by
        cases e : P x with
        | false => rw [lsN_zero fun B _ => by simp]; exact Nat.zero_le _
        | true =>
          have h2 := ih (cutB P x) (by have := sz_cut n hx e; omega)
          rw [lsN_congr (g := trm n (cutB P x)) fun B _ => by rw [if_pos rfl]]
          simpa using h2
      refine Nat.le_trans h1 ?_
      rw [sumN_mul]
      show szB n P * fac a ≤ _
      rw [hP]
      exact Nat.le_refl _
where
  one {n a : Nat} {L : List (Nat → Bool)} {P : Nat → Bool} (hL : ApL n L) (hP : szB n P = a) (hex : ∃ B ∈ L, inB n B P = true ∧ szB n B = a) : lsN L (trm n P) ≤ fac a := by
    obtain ⟨B, hB, hin, hs⟩ := hex
    obtain ⟨L1, L2, rfl⟩ := List.append_of_mem hB
    have hback := in_back hin (by rw [hs, hP])
    unfold ApL at hL
    rw [List.pairwise_append] at hL
    obtain ⟨-, h2, h3⟩ := hL
    rw [List.pairwise_cons] at h2
    have z : ∀ C, inB n C B = false → trm n P C = 0 := fun C hC => by
      unfold trm
      cases e : inB n C P with
      | false => rfl
      | true => rw [in_trans e hback] at hC; cases hC
    rw [lsN_app, lsN_zero fun C hC => z C (h3 C hC B (List.mem_cons_self ..)).1]
    show 0 + (trm n P B + lsN L2 (trm n P)) ≤ _
    rw [lsN_zero fun C hC => z C (h2.1 C hC).2]
    unfold trm
    rw [if_pos hin, hs, hP, Nat.sub_self]
    show 0 + (fac a * 1 + 0) ≤ _
    omega
end Go.Proofs.Ytmogmkdcplgfjaa
