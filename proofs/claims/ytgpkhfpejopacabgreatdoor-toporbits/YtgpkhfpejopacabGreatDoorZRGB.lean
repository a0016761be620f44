/- How the laws' arguments are opened: slices of numbers, slices of such slices. -/
import Derived.Test.YtgpkhfpejopacabGreatDoorZGLM
import Derived.Test.YtgpkhfpejopacabGreatDoorRows
import Derived.Test.YtgpkhfpejopacabGreatDoorChecked
import Derived.ProofKit
import Derived.SizedLaws
import Derived.OpenShut
import Derived.Stop.Joined
import Derived.ChangeOld
import Derived.Lib.SmallJoins
import Derived.Deep.Slices
namespace Go.Proofs.YtgpkhfpejopacabGreatDoor.Gc
open Go.ChangeShapes Go.WideShapes Go.ChangeAt Go.RowKit Go.Joins

set_option maxRecDepth 100000 in
theorem own : ownKnob Tryz.prog.godebug = none := by kernel_rfl
set_option maxRecDepth 100000 in
theorem laidOut : laidOutB Tryz.prog = true := by kernel_rfl
set_option maxRecDepth 100000 in
theorem und22r : Tryz.prog.underlying 22 = some (.slice 29) := by kernel_rfl
set_option maxRecDepth 100000 in
theorem cells3 : Tryz.prog.cellsOf 3 = 1 := by kernel_rfl
set_option maxRecDepth 100000 in
theorem cells23 : Tryz.prog.cellsOf 29 = 1 := by kernel_rfl
set_option maxRecDepth 100000 in
theorem sl_of_trod {H : Type} {enc : TypeId × Value → H} {W : World} {fuel : Nat} {v : Value} {y : DataW H × List MemPlace} (h : DataW.trod enc Tryz.prog W 0 (fun _ => true) true fuel 29 [v] = some y) : ∃ l, Sl W v l ∧ l.length ≤ maxLen := by
  rcases open_ints und22 und3 cells3 h with ⟨hcs, _⟩ | ⟨a, len, cap, zs, hcs, _, hl, hm, hz, _, hcell, _⟩
  · simp only [List.cons.injEq, and_true] at hcs
    subst hcs
    exact ⟨[], Sl.nil W, by simp⟩
  · simp only [List.cons.injEq, and_true] at hcs
    subst hcs
    simp only [if_true] at hz
    have hlen : (zs.take len).length = len := by rw [List.length_take]; omega
    refine ⟨zs.take len, ⟨some a, cap, by rw [hlen], fun j hj => ?_⟩, by omega⟩
    rw [hlen] at hj
    obtain ⟨b, off, rfl, hc⟩ := ints_at hcell (by omega)
    refine ⟨b, off, rfl, ?_⟩
    rw [hc j (by omega)]
    simp [List.getD_eq_getElem?_getD, hj]
set_option maxRecDepth 100000 in
theorem came_of_trod {H : Type} {enc : TypeId × Value → H} {W : World} {fuel : Nat} {v : Value} {y : DataW H × List MemPlace} (h : DataW.trod enc Tryz.prog W 0 (fun _ => true) true fuel 22 [v] = some y) : ∃ ls, Came ls v W := by
  rcases Go.Deep.open_slice1 und22r cells23 h with ⟨hcs, _⟩ | ⟨a, len, cap, m, n, V, D, Pl, hcs, _, hl, hm, hmm, _, hx⟩
  · simp only [List.cons.injEq, and_true] at hcs
    subst hcs
    exact ⟨[], ⟨none, 0, rfl, fun i l hi => by simp at hi⟩, by simp, by simp, Nat.le_refl 0⟩
  · simp only [List.cons.injEq, and_true] at hcs
    subst hcs
    simp only [if_true] at hmm
    have hl' : ∀ i, ∃ l : List Int, i < len → Sl W (V i) l ∧ l.length ≤ maxLen := fun i => by
      by_cases hi : i < len
      · obtain ⟨l, h1, h2⟩ := sl_of_trod (hx i (by omega)).2
        exact ⟨l, fun _ => ⟨h1, h2⟩⟩
      · exact ⟨[], fun h => absurd h hi⟩
    obtain ⟨lf, hlf⟩ := Classical.axiomOfChoice hl'
    refine ⟨(List.range len).map lf, ⟨some a, cap, by simp, fun i l hi => ?_⟩, ?_, by simp; omega, (by omega : len ≤ cap)⟩
    · have hil : i < len := by have := (List.getElem?_eq_some_iff.1 hi).1; simpa using this
      obtain rfl : lf i = l := by simpa [hil] using hi
      obtain ⟨b, off, sp⟩ := a
      have hc := (hx i (by omega)).1
      cases sp with
      | none =>
        refine ⟨b, off, V i, rfl, ?_, (hlf i hil).1⟩
        rw [Addr.add_mid] at hc
        exact hc
      | some s =>
        exfalso
        have hc0 := (hx 0 (by omega)).1
        simp only [Addr.add, if_true, World.cell?] at hc0
        split at hc0 <;> simp at hc0
    · intro l hl2
      obtain ⟨i, hi, rfl⟩ := List.mem_map.1 hl2
      exact (hlf i (List.mem_range.1 hi)).2
set_option maxRecDepth 100000 in
theorem came_of_trod' {H : Type} {enc : TypeId × Value → H} {W : World} {r : Reach} {b0 : Nat} {v : Value} {d : DataW H} {ps : List MemPlace} (hv : Value.okWide Tryz.prog W r b0 22 v) (h : DataW.Trod enc Tryz.prog W 0 (fun _ => true) true 22 v d ps) : ∃ ls, Came ls v W := by
  obtain ⟨a, len, cap, rfl⟩ := okWide_slice und22r hv
  obtain ⟨m, hm⟩ := h
  exact came_of_trod (fuel := m) (y := (d, ps)) hm

end Go.Proofs.YtgpkhfpejopacabGreatDoor.Gc
