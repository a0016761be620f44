/- The walk of crossings. -/
import Derived.Test.YtagpbkcnjogbgaaDoorL1
import Derived.Deep.RegionHeld3
import Derived.Laws.Bits64b
namespace Go.Proofs.YtagpbkcnjogbgaaDoor
open Go.RowKit

theorem Sm_le {n B : Nat} {f : Nat → Nat} (h : ∀ i, i < n → f i ≤ B) : Sm n f ≤ n * B := by
  induction n with
  | zero => exact Nat.zero_le _
  | succ n ih =>
    rw [Sm_succ, Nat.add_mul, Nat.one_mul]
    exact Nat.add_le_add (ih fun i hi => h i (by omega)) (h n (by omega))
theorem cr_le {n : Nat} {s : Nat → Nat → Nat} (hn : n ≤ 8) : ∀ {m : Nat} {a : List Nat}, cr n s m a ≤ 8 ^ m
  | 0, _ => Nat.le_refl _
  | m + 1, a => by
    have : cr n s (m + 1) a ≤ n * 8 ^ m := Sm_le fun c _ => by
      split
      · exact cr_le hn
      · exact Nat.zero_le _
    rw [Nat.pow_succ, Nat.mul_comm]
    exact Nat.le_trans this (Nat.mul_le_mul_right _ hn)
/-- The bits of C are the numbers below 8 that P is of. -/
def BitsOf (C : Nat) (P : Nat → Prop) : Prop := C < 256 ∧ ∀ c, c < 8 → (C.testBit c = true ↔ P c)
theorem BitsOf.or {C : Nat} {P Q : Nat → Prop} {x : Nat} (h : BitsOf C P) (hx : x < 8) (hQ : ∀ c, c < 8 → (Q c ↔ (P c ∨ c = x))) : BitsOf (C ||| 2 ^ x) Q := by
  refine ⟨?_, fun c hc => ?_⟩
  · have h1 : (2 : Nat) ^ x < 2 ^ 8 := Nat.pow_lt_pow_right (by decide) hx
    exact Nat.or_lt_two_pow (n := 8) h.1 h1
  · rw [Nat.testBit_or, Nat.testBit_two_pow, hQ c hc, Bool.or_eq_true, h.2 c hc, decide_eq_true_iff]
    exact or_congr Iff.rfl eq_comm
theorem BitsOf.and {C : Nat} {P : Nat → Prop} {x : Nat} (h : BitsOf C P) (hx : x < 8) : C &&& 2 ^ x = 0 ↔ ¬ P x := by
  rw [← h.2 x hx]
  have key : (C &&& 2 ^ x).testBit x = C.testBit x := by rw [Nat.testBit_and, Nat.testBit_two_pow]; simp
  constructor
  · intro e
    rw [← key, e]
    simp
  · intro e
    apply Nat.eq_of_testBit_eq
    intro i
    rw [Nat.testBit_and, Nat.testBit_two_pow, Nat.zero_testBit]
    by_cases hi : x = i
    · subst hi
      have : C.testBit x = false := by simpa using e
      rw [this]; rfl
    · simp [hi]
theorem okC_bits {s : Nat → Nat → Nat} {a : List Nat} {C D c : Nat} (hC : BitsOf C fun c => ∃ i, i < a.length ∧ a.getD i 0 = c) (hD : BitsOf D fun x => ∃ i, i < a.length ∧ s i (a.getD i 0) = x) (hc : c < 8) (hx : s a.length c < 8) :
    okC s a c = true ↔ C &&& 2 ^ c = 0 ∧ D &&& 2 ^ (s a.length c) = 0 := by
  rw [okC_iff, hC.and hc, hD.and hx]
  constructor
  · intro h
    exact ⟨fun ⟨i, hi, e⟩ => (h i hi).1 e, fun ⟨i, hi, e⟩ => (h i hi).2 e⟩
  · rintro ⟨h1, h2⟩ i hi
    exact ⟨fun e => h1 ⟨i, hi, e⟩, fun e => h2 ⟨i, hi, e⟩⟩

theorem two_lt {c : Nat} (h : c < 8) : 2 ^ c < 256 := Nat.pow_lt_pow_right (a := 2) (m := c) (n := 8) (by decide) h
theorem wrap_two {c h : Nat} (hc : c < 8) (e : 2 ^ c = h) : IntKind.u64.wrap ((2 : Int) ^ c) = (h : Int) := by
  have hlt : h < 256 := by rw [← e]; exact two_lt hc
  have : (2 : Int) ^ c = (h : Int) := by rw [← e]; simp
  rw [this]
  simp [IntKind.wrap, IntKind.bits, IntKind.signed]
  omega
end Go.Proofs.YtagpbkcnjogbgaaDoor
