/- Triangles are strong: by the kernel. Nothing of the program. -/
import Derived.Test.YtlmjlffipinjiabSrQ
namespace Go.Proofs.Ytlmjlffipinjiab
/-- Is it strong, of these numbers? -/
def stB (v : Nat) (k l m : Int) (A : Nat → Nat → Int) : Bool :=
  (List.range v).all fun a => decide (dgG v A a = k) && (List.range v).all fun b => a == b || (if A a b = 1 then decide (cmG v A a b = l) else decide (cmG v A a b = m))
theorem stB_stg {v : Nat} {k l m : Int} {A : Nat → Nat → Int} (h : stB v k l m A = true) (hd : ∀ a, a < v → A a a = 0) : Stg v k l m A := by
  have key : ∀ a, a < v → dgG v A a = k ∧ ∀ b, b < v → a = b ∨ (if A a b = 1 then cmG v A a b = l else cmG v A a b = m) := fun a ha => by
    have h1 := List.all_eq_true.1 h a (List.mem_range.2 ha)
    rw [Bool.and_eq_true] at h1
    refine ⟨of_decide_eq_true h1.1, fun b hb => ?_⟩
    have h2 := List.all_eq_true.1 h1.2 b (List.mem_range.2 hb)
    rw [Bool.or_eq_true] at h2
    rcases h2 with q | q
    · exact .inl (by simpa using q)
    · right
      split
      · rename_i e; rw [if_pos e] at q; exact of_decide_eq_true q
      · rename_i e; rw [if_neg e] at q; exact of_decide_eq_true q
  refine ⟨fun a ha => (key a ha).1, fun a b ha hb e => ?_, fun a b ha hb hne e => ?_⟩
  · rcases (key a ha).2 b hb with q | q
    · subst q; rw [hd a ha] at e; exact absurd e (by decide)
    · rwa [if_pos e] at q
  · rcases (key a ha).2 b hb with q | q
    · exact absurd q hne
    · rwa [if_neg (by rw [e]; decide)] at q
/-- The pairs of two of n numbers, as sums of powers of two. -/
def trL (n : Nat) : List Nat := (List.range n).flatMap fun a => (List.range (n - (a + 1))).map fun b => 2 ^ a + 2 ^ (a + 1 + b)
def trG (n a b : Nat) : Int := if a ≠ b ∧ (trL n).getD a 0 &&& (trL n).getD b 0 ≠ 0 then 1 else 0
def trM (l : List Nat) (a b : Nat) : Int := if a ≠ b ∧ l.getD a 0 &&& l.getD b 0 ≠ 0 then 1 else 0
theorem trL4 : trL 4 = [3, 5, 9, 6, 10, 12] := by decide +kernel
theorem trL5 : trL 5 = [3, 5, 9, 17, 6, 10, 18, 12, 20, 24] := by decide +kernel
theorem trL6 : trL 6 = [3, 5, 9, 17, 33, 6, 10, 18, 34, 12, 20, 36, 24, 40, 48] := by decide +kernel
theorem trL7 : trL 7 = [3, 5, 9, 17, 33, 65, 6, 10, 18, 34, 66, 12, 20, 36, 68, 24, 40, 72, 48, 80, 96] := by decide +kernel
theorem tr_diag (l : List Nat) (a : Nat) : trM l a a = 0 := if_neg fun h => h.1 rfl
theorem tr4 : stB 6 4 2 4 (trM [3, 5, 9, 6, 10, 12]) = true := by decide +kernel
theorem tr5 : stB 10 6 3 4 (trM [3, 5, 9, 17, 6, 10, 18, 12, 20, 24]) = true := by decide +kernel
theorem tr6 : stB 15 8 4 4 (trM [3, 5, 9, 17, 33, 6, 10, 18, 34, 12, 20, 36, 24, 40, 48]) = true := by decide +kernel
theorem tr7 : stB 21 10 5 4 (trM [3, 5, 9, 17, 33, 65, 6, 10, 18, 34, 66, 12, 20, 36, 68, 24, 40, 72, 48, 80, 96]) = true := by decide +kernel
/-- Triangles are strong. -/
theorem tr_stg {n : Nat} (h3 : 3 < n) (h7 : n ≤ 7) : Stg (trL n).length (2 * (n - 2)) (n - 2) 4 (trG n) := by
  have e : trG n = trM (trL n) := rfl
  rw [e]
  rcases (show n = 4 ∨ n = 5 ∨ n = 6 ∨ n = 7 by omega) with h | h | h | h <;> subst h
  · rw [trL4]; exact stB_stg tr4 fun a _ => tr_diag _ a
  · rw [trL5]; exact stB_stg tr5 fun a _ => tr_diag _ a
  · rw [trL6]; exact stB_stg tr6 fun a _ => tr_diag _ a
  · rw [trL7]; exact stB_stg tr7 fun a _ => tr_diag _ a
end Go.Proofs.Ytlmjlffipinjiab
