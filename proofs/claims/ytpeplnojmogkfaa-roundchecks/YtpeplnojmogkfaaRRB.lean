/- How rows of rows are opened. -/
import Derived.Test.YtpeplnojmogkfaaRPB
import Derived.Test.YtpeplnojmogkfaaLA
namespace Go.Proofs.Ytpeplnojmogkfaa
open Go.ChangeShapes Go.WideShapes Go.ChangeAt Go.RowKit Go.Joins

theorem und34 : Try.prog.underlying 22 = some (.slice 38) := by kernel_rfl
theorem cells22 : Try.prog.cellsOf 38 = 1 := by kernel_rfl
theorem came_of_trod {H : Type} {enc : TypeId × Value → H} {W : World} {fuel : Nat} {v : Value} {y : DataW H × List MemPlace} (h : DataW.trod enc Try.prog W 0 (fun _ => true) true fuel 22 [v] = some y) : ∃ ls, RwC W v ls := by
  rcases Go.Deep.open_slice1 und34 cells22 h with ⟨hcs, _⟩ | ⟨a, len, cap, m, n, V, D, Pl, hcs, _, hl, hm, hmm, _, hx⟩
  · simp only [List.cons.injEq, and_true] at hcs
    subst hcs
    exact ⟨[], ⟨none, 0, rfl, Nat.le_refl _, fun i l hi => by simp at hi⟩, by simp, by simp⟩
  · simp only [List.cons.injEq, and_true] at hcs
    subst hcs
    simp only [if_true] at hmm
    have hl' : ∀ i, ∃ l : List Int, i < len → Sl W (V i) l ∧ l.length ≤ maxLen := fun i => by
      by_cases hi : i < len
      · obtain ⟨l, h1, h2⟩ := sl_of_trod (hx i (by omega)).2
        exact ⟨l, fun _ => ⟨h1, h2⟩⟩
      · exact ⟨[], fun h => absurd h hi⟩
    obtain ⟨lf, hlf⟩ := Classical.axiomOfChoice hl'
    refine ⟨(List.range len).map lf, ⟨some a, cap, by simp, by simp; omega, fun i l hi => ?_⟩, by simp; omega, ?_⟩
    · have hil : i < len := by have := (List.getElem?_eq_some_iff.1 hi).1; simpa using this
      obtain rfl : lf i = l := by simpa [hil] using hi
      obtain ⟨b, off, sp⟩ := a
      have hc := (hx i (by omega)).1
      cases sp with
      | none =>
        refine ⟨b, off, V i, rfl, ?_, (hlf i hil).1⟩
        rw [Addr.add_mid] at hc
        exact hc
      | some s =>
        exfalso
        have hc0 := (hx 0 (by omega)).1
        simp only [Addr.add, if_true, World.cell?] at hc0
        split at hc0 <;> simp at hc0
    · intro l hl2
      obtain ⟨i, hi, rfl⟩ := List.mem_map.1 hl2
      exact (hlf i (List.mem_range.1 hi)).2
set_option maxRecDepth 100000 in
theorem came_of_trod' {H : Type} {enc : TypeId × Value → H} {W : World} {r : Reach} {b0 : Nat} {v : Value} {d : DataW H} {ps : List MemPlace} (hv : Value.okWide Try.prog W r b0 22 v) (h : DataW.Trod enc Try.prog W 0 (fun _ => true) true 22 v d ps) : ∃ ls, RwC W v ls := by
  obtain ⟨a, len, cap, rfl⟩ := okWide_slice und34 hv
  obtain ⟨m, hm⟩ := h
  exact came_of_trod (fuel := m) (y := (d, ps)) hm

end Go.Proofs.Ytpeplnojmogkfaa
