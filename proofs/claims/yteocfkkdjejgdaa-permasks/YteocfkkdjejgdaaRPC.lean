/- Slices of numbers as they came in, with their room. -/
import Derived.Test.YteocfkkdjejgdaaRPB
import Derived.Test.YteocfkkdjejgdaaP33
namespace Go.Proofs.Yteocfkkdjejgdaa
open Go.ChangeShapes Go.WideShapes Go.ChangeAt Go.RowKit Go.Joins

theorem sl_of_trod2 {H : Type} {enc : TypeId × Value → H} {W : World} {fuel : Nat} {v : Value} {y : DataW H × List MemPlace} (h : DataW.trod enc Try.prog W 0 (fun _ => true) true fuel 22 [v] = some y) : ∃ l, Sl W v l ∧ l.length ≤ maxLen ∧ capOk v := by
  rcases open_ints und22 und3 cells3 h with ⟨hcs, _⟩ | ⟨a, len, cap, zs, hcs, _, hl, hm, hz, _, hcell, _⟩
  · simp only [List.cons.injEq, and_true] at hcs
    subst hcs
    exact ⟨[], Sl.nil W, by simp, Nat.le_refl 0⟩
  · simp only [List.cons.injEq, and_true] at hcs
    subst hcs
    simp only [if_true] at hz
    have hlen : (zs.take len).length = len := by rw [List.length_take]; omega
    refine ⟨zs.take len, ⟨some a, cap, by rw [hlen], fun j hj => ?_⟩, by omega, (by omega : len ≤ cap)⟩
    rw [hlen] at hj
    obtain ⟨b, off, rfl, hc⟩ := ints_at hcell (by omega)
    refine ⟨b, off, rfl, ?_⟩
    rw [hc j (by omega)]
    simp [List.getD_eq_getElem?_getD, hj]
theorem sl_of_trod2' {H : Type} {enc : TypeId × Value → H} {W : World} {r : Reach} {b0 : Nat} {v : Value} {d : DataW H} {ps : List MemPlace} (hv : Value.okWide Try.prog W r b0 22 v) (h : DataW.Trod enc Try.prog W 0 (fun _ => true) true 22 v d ps) : ∃ l, Sl W v l ∧ l.length ≤ maxLen ∧ capOk v := by
  obtain ⟨a, len, cap, rfl⟩ := okWide_slice und22 hv
  obtain ⟨m, hm⟩ := h
  exact sl_of_trod2 (fuel := m) (y := (d, ps)) hm

end Go.Proofs.Yteocfkkdjejgdaa
