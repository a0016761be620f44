/- Graphs as matrices of 0 and 1: strong ones, what counting says, the other, friends (Erdos, Renyi, Sos). Nothing of the program. -/
import Derived.Test.YtlmjlffipinjiabSrZ
namespace Go.Proofs.Ytlmjlffipinjiab

structure Gr (n : Nat) (A : Nat → Nat → Int) : Prop where
  bit : ∀ a b, a < n → b < n → A a b = 0 ∨ A a b = 1
  sym : ∀ a b, a < n → b < n → A a b = A b a
  diag : ∀ a, a < n → A a a = 0
def dgG (n : Nat) (A : Nat → Nat → Int) (a : Nat) : Int := sR n (A a)
def cmG (n : Nat) (A : Nat → Nat → Int) (a b : Nat) : Int := sR n fun c => A a c * A b c
/-- Of one degree, of one number for the joined, of one for the others. -/
structure Stg (n : Nat) (k l m : Int) (A : Nat → Nat → Int) : Prop where
  deg : ∀ a, a < n → dgG n A a = k
  near : ∀ a b, a < n → b < n → A a b = 1 → cmG n A a b = l
  far : ∀ a b, a < n → b < n → a ≠ b → A a b = 0 → cmG n A a b = m
theorem sR_nonneg {f : Nat → Int} : ∀ {n : Nat}, (∀ i, i < n → 0 ≤ f i) → 0 ≤ sR n f
  | 0, _ => Int.le_refl _
  | n + 1, h => by
    have h1 := sR_nonneg (n := n) fun i hi => h i (by omega)
    have h2 := h n (by omega)
    rw [sR]; omega
theorem sR_mono {f g : Nat → Int} : ∀ {n : Nat}, (∀ i, i < n → f i ≤ g i) → sR n f ≤ sR n g
  | 0, _ => Int.le_refl _
  | n + 1, h => by
    have h1 := sR_mono (n := n) fun i hi => h i (by omega)
    have h2 := h n (by omega)
    rw [sR, sR]; omega
/-- Less at one place. -/
theorem sR_less {f g : Nat → Int} : ∀ {n : Nat}, (∀ i, i < n → f i ≤ g i) → ∀ k, k < n → f k + 1 ≤ g k → sR n f + 1 ≤ sR n g
  | 0, _, k, hk, _ => by omega
  | n + 1, h, k, hk, h1 => by
    rw [sR, sR]
    by_cases e : k = n
    · subst e
      have := sR_mono (n := k) fun i hi => h i (by omega)
      omega
    · have := sR_less (n := n) (fun i hi => h i (by omega)) k (by omega) h1
      have := h n (by omega)
      omega
theorem sR_some {f : Nat → Int} : ∀ {n : Nat}, sR n f ≠ 0 → ∃ i, i < n ∧ f i ≠ 0
  | 0, h => absurd rfl h
  | n + 1, h => by
    by_cases e : f n = 0
    · rw [sR, e, Int.add_zero] at h
      obtain ⟨i, hi, k⟩ := sR_some h
      exact ⟨i, by omega, k⟩
    · exact ⟨n, by omega, e⟩
theorem sR_int (c : Int) (n : Nat) : sR n (fun _ => c) = n * c := by
  have e : sR n (fun _ => c) = sR n (fun _ => c * 1) := sR_congr fun _ _ => by omega
  rw [e, sR_mul, sR_one, nR_int, Int.mul_comm]
theorem sR_swap (f : Nat → Nat → Int) (m : Nat) : ∀ n, sR n (fun i => sR m (fun j => f i j)) = sR m (fun j => sR n (fun i => f i j))
  | 0 => by simp only [sR]; rw [sR_nil]
  | n + 1 => by
    rw [sR, sR_swap f m n, ← sR_add]
    exact sR_congr fun j _ => rfl
section
variable {n : Nat} {A : Nat → Nat → Int}
theorem Gr.at (G : Gr n A) {a b : Nat} (ha : a < n) (hb : b < n) : 0 ≤ A a b ∧ A a b ≤ 1 := by
  rcases G.bit a b ha hb with h | h <;> omega
theorem Gr.cm_self (G : Gr n A) {a : Nat} (ha : a < n) : cmG n A a a = dgG n A a := sR_congr fun c hc => by
  rcases G.bit a c ha hc with h | h <;> rw [h] <;> rfl
theorem Gr.cm_sym (a b : Nat) : cmG n A a b = cmG n A b a := sR_congr fun _ _ => Int.mul_comm _ _
theorem Gr.cm_at (G : Gr n A) {a b : Nat} (ha : a < n) (hb : b < n) : 0 ≤ cmG n A a b ∧ cmG n A a b ≤ dgG n A a := by
  refine ⟨sR_nonneg fun c hc => ?_, sR_mono fun c hc => ?_⟩
  · exact Int.mul_nonneg (G.at ha hc).1 (G.at hb hc).1
  · rcases G.bit a c ha hc with h | h <;> rcases G.bit b c hb hc with h' | h' <;> rw [h, h'] <;> decide
theorem Gr.cm_less (G : Gr n A) {a b : Nat} (ha : a < n) (hb : b < n) (h : A a b = 1) : cmG n A a b + 1 ≤ dgG n A a := by
  refine sR_less (fun c hc => ?_) b hb ?_
  · rcases G.bit a c ha hc with h | h <;> rcases G.bit b c hb hc with h' | h' <;> rw [h, h'] <;> decide
  · rw [G.diag b hb, h]
    decide
theorem Gr.dg_less (G : Gr n A) {a : Nat} (ha : a < n) : 0 ≤ dgG n A a ∧ dgG n A a + 1 ≤ n := by
  refine ⟨sR_nonneg fun c hc => (G.at ha hc).1, ?_⟩
  have h := sR_less (f := A a) (g := fun _ => 1) (fun c hc => (G.at ha hc).2) a ha (by rw [G.diag a ha]; decide)
  rw [sR_int] at h
  unfold dgG
  omega
theorem Gr.full (G : Gr n A) {a : Nat} (ha : a < n) (h : dgG n A a + 1 = n) {b : Nat} (hb : b < n) (hne : b ≠ a) : A a b = 1 := by
  rcases G.bit a b ha hb with k | k
  · exfalso
    have h1 := sR_less (f := A a) (g := fun c => 1 - idR a c) (fun c hc => by
      show A a c ≤ 1 - idR a c
      unfold idR
      by_cases e : a = c
      · subst e; rw [if_pos rfl, G.diag a ha]; decide
      · rw [if_neg e]; have := (G.at ha hc).2; omega) b hb (by
      show A a b + 1 ≤ 1 - idR a b
      unfold idR
      rw [if_neg fun e => hne e.symm, k]
      decide)
    have e : sR n (fun c => 1 - idR a c : Nat → Int) = sR n (fun c => 1 * 1 + (-1) * (idR a c * 1)) := sR_congr fun c _ => by omega
    rw [e, sR_two, sR_one, nR_int, sR_id (fun _ => 1) a n, if_pos ha] at h1
    unfold dgG at h
    omega
  · exact k
theorem Stg.sr {k l m : Int} (S : Stg n k l m A) (G : Gr n A) : SrR n k l m A where
  row a ha := S.deg a ha
  col b hb := by
    rw [← S.deg b hb]
    exact sR_congr fun h hh => G.sym h b hh hb
  diag := G.diag
  sq a b ha hb := by
    have e : sR n (fun h => A a h * A h b) = cmG n A a b := sR_congr fun h hh => by rw [G.sym h b hh hb]
    rw [e]
    unfold idR
    by_cases h : a = b
    · subst h
      rw [if_pos rfl, G.cm_self ha, S.deg a ha, G.diag a ha]
      omega
    · rw [if_neg h]
      rcases G.bit a b ha hb with k | k
      · rw [S.far a b ha hb h k, k]; omega
      · rw [S.near a b ha hb k, k]; omega
theorem SrR.count {k l m : Int} (S : SrR n k l m A) (hn : 1 ≤ n) : k * (k - l - 1) = (n - k - 1) * m := by
  have h0 : 0 < n := hn
  have e1 : sR n (fun b => sR n (fun h => A 0 h * A h b)) = k * k := by
    rw [sR_swap]
    have : sR n (fun h => sR n (fun b => A 0 h * A h b)) = sR n (fun h => k * A 0 h) := sR_congr fun h hh => by
      rw [sR_mul, show sR n (fun b => A h b) = k from S.row h hh, Int.mul_comm]
    rw [this, sR_mul, show sR n (fun b => A 0 b) = k from S.row 0 h0]
  have e2 : sR n (fun b => sR n (fun h => A 0 h * A h b)) = sR n (fun b => (k - m) * (idR 0 b * 1) + (l - m) * A 0 b + m * 1) := sR_congr fun b hb => by
    rw [S.sq 0 b h0 hb]
    grind
  rw [e1, sR_three, sR_id (fun _ => 1) 0 n, if_pos h0, sR_one, nR_int, show sR n (fun b => A 0 b) = k from S.row 0 h0] at e2
  grind
end
end Go.Proofs.Ytlmjlffipinjiab
