/- The document's CouldOf, walked. -/
import Derived.Test.YtgkfddcmngodgabU3
namespace Go.Proofs.Ytgkfddcmngodgab
open Go.RowKit

theorem and_i64 {a : Nat} (ha : a < 2 ^ 62) : bits .and .i64 (a : Int) 1 = ((a % 2 : Nat) : Int) := by
  have h1 : (BitVec.ofInt 64 (a : Int)).toNat = a := by rw [BitVec.ofInt_natCast, BitVec.toNat_ofNat]; exact Nat.mod_eq_of_lt (by omega)
  have h2 : (BitVec.ofInt 64 (1 : Int)).toNat = 1 := rfl
  show IntKind.i64.wrap ((BitVec.ofInt 64 (a : Int) &&& BitVec.ofInt 64 (1 : Int)).toNat : Int) = _
  rw [BitVec.toNat_and, h1, h2, Nat.and_one_is_mod, IntKind.wrap_i64]
  omega
theorem bit_i64 {x : Nat} (hx : x < 2 ^ 62) (b : Nat) : (bits .and .i64 ((x : Int) / 2 ^ b) 1 == 1) = x.testBit b := by
  have h1 : x / 2 ^ b < 2 ^ 62 := Nat.lt_of_le_of_lt (Nat.div_le_self _ _) hx
  rw [show (x : Int) / 2 ^ b = ((x / 2 ^ b : Nat) : Int) by simp, and_i64 h1]
  unfold Nat.testBit
  rw [Nat.one_and_eq_mod_two, Nat.shiftRight_eq_div_pow]
  have := Nat.mod_two_eq_zero_or_one (x / 2 ^ b)
  rcases this with e | e <;> rw [e] <;> rfl
def kS (s i : Nat) : Nat := (inS i s).length
def qS (L : List Nat) (s i : Nat) : Nat := sumL ((inS i s).map fun j => L.getD j 0)
theorem inS_more (s i : Nat) : inS (i + 1) s = inS i s ++ if s.testBit i then [i] else [] := by
  unfold inS; rw [List.range_succ, List.filter_append]; simp [List.filter_cons]
theorem kS_yes {s i : Nat} (h : s.testBit i = true) : kS s (i + 1) = kS s i + 1 := by unfold kS; rw [inS_more, if_pos h, List.length_append]; rfl
theorem kS_no {s i : Nat} (h : s.testBit i = false) : kS s (i + 1) = kS s i := by unfold kS; rw [inS_more, h]; simp
theorem qS_yes (L : List Nat) {s i : Nat} (h : s.testBit i = true) : qS L s (i + 1) = qS L s i + L.getD i 0 := by
  unfold qS; rw [inS_more, if_pos h, List.map_append, sumL_append]; simp [sumL]
theorem qS_no (L : List Nat) {s i : Nat} (h : s.testBit i = false) : qS L s (i + 1) = qS L s i := by unfold qS; rw [inS_more, h]; simp
theorem okS_is (L : List Nat) (s : Nat) : okS L s = !(decide (qS L s L.length < kS s L.length * (kS s L.length - 1) / 2) || (kS s L.length == L.length && decide (kS s L.length * (kS s L.length - 1) / 2 < qS L s L.length))) := rfl
/-- What the document says of scores. -/
def cZ (l : List Int) : Bool × Nat :=
  if 9 < l.length then (false, 3) else if l.length = 0 then (false, 2)
  else if (List.range l.length).any fun i => decide (l.getD i 0 < 0) || decide ((l.length : Int) ≤ l.getD i 0) then (false, 1)
  else (coB (l.map Int.toNat), 0)
end Go.Proofs.Ytgkfddcmngodgab
