/- The walk of SquaresOf of the document's answer. -/
import Derived.Test.YthdjionamhekfaaDoorW38a
namespace Go.Proofs.YthdjionamhekfaaDoor
open Go.RowKit

theorem foundTo_mono {P K : Nat} {m : Nat → Int} {a b j : Nat} (h : a ≤ b) (hf : foundTo P K m a j = true) : foundTo P K m b j = true := by
  unfold foundTo at *
  rw [List.any_eq_true] at *
  obtain ⟨x, hx, h2⟩ := hf
  exact ⟨x, by simp at *; omega, h2⟩

theorem owned_below {w w' : World} {base n : Nat} {v : Value} {xs : List Value} (h : w.ownsRow base 3 1 v n xs) (hb : Below w.heap.size w w') : w'.ownsRow base 3 1 v n xs :=
  h.kept (row := none) ⟨hb.os, hb.tape, hb.output, hb.size, fun k hk _ => hb.block k hk⟩ (by
    cases hv : v.ownBlock with
    | none => exact .inl rfl
    | some k => exact .inr (by simp))

end Go.Proofs.YthdjionamhekfaaDoor
