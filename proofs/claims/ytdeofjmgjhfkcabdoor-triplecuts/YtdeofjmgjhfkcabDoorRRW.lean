/- Rows of rows as they come. -/
import Derived.Test.YtdeofjmgjhfkcabDoorF1
import Derived.Test.YtdeofjmgjhfkcabDoorDFa
import Derived.Test.YtdeofjmgjhfkcabDoorRows
import Derived.Test.YtdeofjmgjhfkcabDoorChecked
import Derived.ProofKit
import Derived.SizedLaws
import Derived.LaidMore
import Derived.Lib.LaidTab
import Derived.OpenShut
import Derived.Stop.Joined
import Derived.ChangeOld
import Derived.Lib.SmallJoins
import Derived.Deep.Slices
/- How the laws' arguments are opened: designs. -/
namespace Go.Proofs.YtdeofjmgjhfkcabDoor
open Go.ChangeShapes Go.WideShapes Go.ChangeAt Go.RowKit Go.Joins

theorem own : ownKnob Tryd.prog.godebug = none := by kernel_rfl
theorem laidOut : laidOutB Tryd.prog = true := by kernel_rfl
def laid1 : List (String × DataW Unit) := [("math/bits.deBruijn64tab", Rows.laid_math_bits_deBruijn64tab)]
theorem door_met (os : Os) (args : Array Value) : laidMetH Tryd.prog laid1 ((World.doorLaid Tryd.prog 400 os).forCall (fun _ _ => 0) ⟨#[], args, []⟩).memory :=
  laidMetH_of_parts3 (fuel := 8) (laidMet_of_run' 8 (by kernel_rfl) (by kernel_rfl)) (by kernel_rfl) (by kernel_rfl)
theorem und123 : Tryd.prog.underlying 123 = some (.array 64 5) := by kernel_rfl
theorem und5 : Tryd.prog.underlying 5 = some (.int .u8) := by kernel_rfl
theorem tab_of_laid {W : World} (h : laidMetH Tryd.prog laid1 W) : Tab W := by
  rw [MakeChecks.laidMetH_plain _ _ _ (by kernel_rfl)] at h
  have hg : Tryd.prog.globalNamed "math/bits.deBruijn64tab" = some 0 := by kernel_rfl
  have ht := Lib.tabIs_of_head (k := .u8) (zs := Lib.deBruijn64tab.map Int.ofNat) (rest := []) (g := 0) (t := 123) (e := 5) (n := 64) hg (by kernel_rfl) und123 und5 (by kernel_rfl) (by kernel_rfl) h
  unfold Lib.TabIs World.var? at ht
  rw [hg] at ht
  simp only [Option.bind_some] at ht
  split at ht
  · rename_i cs t fr e
    simp only [Option.some.injEq] at ht
    subst ht
    exact ⟨t, fr, e⟩
  · cases ht
theorem cells3 : Tryd.prog.cellsOf 3 = 1 := by kernel_rfl
theorem cells24 : Tryd.prog.cellsOf 25 = 2 := by kernel_rfl
theorem undRow : Tryd.prog.underlying 22 = some (.slice 29) := by kernel_rfl
theorem cellsRow : Tryd.prog.cellsOf 29 = 1 := by kernel_rfl
theorem sl_of_trod {H : Type} {enc : TypeId × Value → H} {W : World} {fuel : Nat} {v : Value} {y : DataW H × List MemPlace} (h : DataW.trod enc Tryd.prog W 0 (fun _ => true) true fuel 29 [v] = some y) : ∃ l, Sl W v l ∧ l.length ≤ maxLen := by
  rcases open_ints und22 und3 cells3 h with ⟨hcs, _⟩ | ⟨a, len, cap, zs, hcs, _, hl, hm, hz, _, hcell, _⟩
  · simp only [List.cons.injEq, and_true] at hcs
    subst hcs
    exact ⟨[], Sl.nil W, by simp⟩
  · simp only [List.cons.injEq, and_true] at hcs
    subst hcs
    simp only [if_true] at hz
    have hlen : (zs.take len).length = len := by rw [List.length_take]; omega
    refine ⟨zs.take len, ⟨some a, cap, by rw [hlen], fun j hj => ?_⟩, by omega⟩
    rw [hlen] at hj
    obtain ⟨b, off, rfl, hc⟩ := ints_at hcell (by omega)
    refine ⟨b, off, rfl, ?_⟩
    rw [hc j (by omega)]
    simp [List.getD_eq_getElem?_getD, hj]
theorem rows_of_trod {H : Type} {enc : TypeId × Value → H} {W : World} {fuel : Nat} {v : Value} {y : DataW H × List MemPlace} (h : DataW.trod enc Tryd.prog W 0 (fun _ => true) true fuel 22 [v] = some y) : ∃ ls, Rw W v ls ∧ (∀ l ∈ ls, l.length ≤ maxLen) ∧ ls.length ≤ maxLen := by
  rcases Go.Deep.open_slice1 undRow cellsRow h with ⟨hcs, _⟩ | ⟨a, len, cap, m, n, V, D, Pl, hcs, _, hl, hm, hmm, _, hx⟩
  · simp only [List.cons.injEq, and_true] at hcs
    subst hcs
    exact ⟨[], ⟨none, 0, rfl, fun i l hi => by simp at hi⟩, by simp, by simp⟩
  · simp only [List.cons.injEq, and_true] at hcs
    subst hcs
    simp only [if_true] at hmm
    have hl' : ∀ i, ∃ l : List Int, i < len → Sl W (V i) l ∧ l.length ≤ maxLen := fun i => by
      by_cases hi : i < len
      · obtain ⟨l, h1, h2⟩ := sl_of_trod (hx i (by omega)).2
        exact ⟨l, fun _ => ⟨h1, h2⟩⟩
      · exact ⟨[], fun h => absurd h hi⟩
    obtain ⟨lf, hlf⟩ := Classical.axiomOfChoice hl'
    refine ⟨(List.range len).map lf, ⟨some a, cap, by simp, fun i l hi => ?_⟩, ?_, by simp; omega⟩
    · have hil : i < len := by have := (List.getElem?_eq_some_iff.1 hi).1; simpa using this
      obtain rfl : lf i = l := by simpa [hil] using hi
      obtain ⟨b, off, sp⟩ := a
      have hc := (hx i (by omega)).1
      cases sp with
      | none =>
        refine ⟨b, off, V i, rfl, ?_, (hlf i hil).1⟩
        rw [Addr.add_mid] at hc
        exact hc
      | some s =>
        exfalso
        have hc0 := (hx 0 (by omega)).1
        simp only [Addr.add, if_true, World.cell?] at hc0
        split at hc0 <;> simp at hc0
    · intro l hl2
      obtain ⟨i, hi, rfl⟩ := List.mem_map.1 hl2
      exact (hlf i (List.mem_range.1 hi)).2
set_option maxRecDepth 100000 in
theorem design_open {H : Type} {enc : TypeId × Value → H} {W : World} {r : Reach} {b0 : Nat} {v : Value} {d : DataW H} {ps : List MemPlace} (hv : Value.okWide Tryd.prog W r b0 25 v) (h : DataW.Trod enc Tryd.prog W 0 (fun _ => true) true 25 v d ps) :
    ∃ (s : Int) (u : Value) (ls : List (List Int)), v = .agg #[.int .i64 s, u] ∧ Rw W u ls ∧ (∀ l ∈ ls, l.length ≤ maxLen) ∧ ls.length ≤ maxLen := by
  obtain ⟨v0, v1, y0, y1, n, rfl, _, _, h0, h1⟩ := open_agg2 Tryd.underlying25 (by kernel_rfl) cells24 hv h
  obtain ⟨p, e0, _, _⟩ := DataW.trod_int Tryd.underlying3 h0
  simp only [List.cons.injEq, and_true] at e0
  subst e0
  obtain ⟨ls, h1, h2, h3⟩ := rows_of_trod h1
  exact ⟨p, v1, ls, rfl, h1, h2, h3⟩
end Go.Proofs.YtdeofjmgjhfkcabDoor

namespace Go.Proofs.YtdeofjmgjhfkcabDoor
open Go.ChangeShapes Go.WideShapes Go.ChangeAt Go.RowKit Go.Joins

set_option maxRecDepth 100000 in
theorem rows_open {H : Type} {enc : TypeId × Value → H} {W : World} {r : Reach} {b0 : Nat} {v : Value} {d : DataW H} {ps : List MemPlace} (hv : Value.okWide Tryd.prog W r b0 22 v) (h : DataW.Trod enc Tryd.prog W 0 (fun _ => true) true 22 v d ps) :
    ∃ (ls : List (List Int)), Rw W v ls ∧ (∀ l ∈ ls, l.length ≤ maxLen) ∧ ls.length ≤ maxLen := by
  obtain ⟨a, len, cap, rfl⟩ := okWide_slice undRow hv
  obtain ⟨m, hm⟩ := h
  exact rows_of_trod (fuel := m) (y := (d, ps)) hm
end Go.Proofs.YtdeofjmgjhfkcabDoor
