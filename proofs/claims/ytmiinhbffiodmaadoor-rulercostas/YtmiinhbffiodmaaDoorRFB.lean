/- How the laws' arguments are opened: lists of numbers as they came in; what the table of primes holds. -/
import Derived.Test.YtmiinhbffiodmaaDoorPBase
import Derived.Test.YtmiinhbffiodmaaDoorW55
import Derived.Test.YtmiinhbffiodmaaDoorRows
import Derived.Test.YtmiinhbffiodmaaDoorChecked
import Derived.ProofKit
import Derived.LaidMore
import Derived.OpenShut
import Derived.Stop.Joined
import Derived.ChangeOld
import Derived.Lib.LaidTab
import Derived.Lib.SmallJoins
namespace Go.Proofs.YtmiinhbffiodmaaDoor
open Go.ChangeShapes Go.WideShapes Go.ChangeAt Go.RowKit Go.Joins

theorem own : ownKnob Tryd.prog.godebug = none := by kernel_rfl
theorem laidOut : laidOutB Tryd.prog = true := by kernel_rfl
def laid1 : List (String × DataW Unit) := [("parterre/field.primes", Rows.laid_parterre_field_primes)]
theorem door_met (os : Os) (args : Array Value) : laidMetH Tryd.prog laid1 ((World.doorLaid Tryd.prog 400 os).forCall (fun _ _ => 0) ⟨#[], args, []⟩).memory :=
  laidMetH_of_parts3 (fuel := 8) (laidMet_of_run' 8 (by kernel_rfl) (by kernel_rfl)) (by kernel_rfl) (by kernel_rfl)
theorem tab_of_laid {W : World} (h : laidMetH Tryd.prog laid1 W) : Fd.Tab W := by
  rw [MakeChecks.laidMetH_plain _ _ _ (by kernel_rfl)] at h
  have hg : Tryd.prog.globalNamed "parterre/field.primes" = some 0 := by kernel_rfl
  have ht := Lib.tabIs_of_head (k := .i64) (zs := Fd.primeTab) (rest := []) (g := 0) (t := 70) (e := 3) (n := 18) hg (by kernel_rfl) Fd.und69 und3 (by kernel_rfl) (by kernel_rfl) h
  unfold Lib.TabIs World.var? at ht
  rw [hg] at ht
  simp only [Option.bind_some] at ht
  split at ht
  · rename_i cs t fr e
    simp only [Option.some.injEq] at ht
    subst ht
    exact ⟨t, fr, e⟩
  · cases ht
theorem cells3 : Tryd.prog.cellsOf 3 = 1 := by kernel_rfl
theorem sl_of_trod {H : Type} {enc : TypeId × Value → H} {W : World} {fuel : Nat} {v : Value} {y : DataW H × List MemPlace} (h : DataW.trod enc Tryd.prog W 0 (fun _ => true) true fuel 22 [v] = some y) : ∃ l, Sl W v l ∧ l.length ≤ maxLen := by
  rcases open_ints und22 und3 cells3 h with ⟨hcs, _⟩ | ⟨a, len, cap, zs, hcs, _, hl, hm, hz, _, hcell, _⟩
  · simp only [List.cons.injEq, and_true] at hcs
    subst hcs
    exact ⟨[], Sl.nil W, by simp⟩
  · simp only [List.cons.injEq, and_true] at hcs
    subst hcs
    simp only [if_true] at hz
    have hlen : (zs.take len).length = len := by rw [List.length_take]; omega
    refine ⟨zs.take len, ⟨some a, cap, by rw [hlen], fun j hj => ?_⟩, by omega⟩
    rw [hlen] at hj
    obtain ⟨b, off, rfl, hc⟩ := ints_at hcell (by omega)
    refine ⟨b, off, rfl, ?_⟩
    rw [hc j (by omega)]
    simp [List.getD_eq_getElem?_getD, hj]
theorem sl_of_trod' {H : Type} {enc : TypeId × Value → H} {W : World} {r : Reach} {b0 : Nat} {v : Value} {d : DataW H} {ps : List MemPlace} (hv : Value.okWide Tryd.prog W r b0 22 v) (h : DataW.Trod enc Tryd.prog W 0 (fun _ => true) true 22 v d ps) : ∃ l, Sl W v l ∧ l.length ≤ maxLen := by
  obtain ⟨a, len, cap, rfl⟩ := okWide_slice und22 hv
  obtain ⟨m, hm⟩ := h
  exact sl_of_trod (fuel := m) (y := (d, ps)) hm

theorem room_of_trod {H : Type} {enc : TypeId × Value → H} {W : World} {fuel : Nat} {v : Value} {y : DataW H × List MemPlace} (h : DataW.trod enc Tryd.prog W 0 (fun _ => true) true fuel 22 [v] = some y) : ∀ a n c, v = .slice a n c → n ≤ c := by
  rcases open_ints und22 und3 cells3 h with ⟨hcs, _⟩ | ⟨a', len, cap, zs, hcs, _, hl, hm', hz, _, hcell, _⟩
  · simp only [List.cons.injEq, and_true] at hcs
    subst hcs
    intro a n c e
    simp only [Value.slice.injEq] at e
    omega
  · simp only [List.cons.injEq, and_true] at hcs
    subst hcs
    intro a n c e
    simp only [Value.slice.injEq] at e
    omega
theorem room_of_trod' {H : Type} {enc : TypeId × Value → H} {W : World} {v : Value} {d : DataW H} {ps : List MemPlace} (h : DataW.Trod enc Tryd.prog W 0 (fun _ => true) true 22 v d ps) : ∀ a n c, v = .slice a n c → n ≤ c := by
  intro a n c e
  subst e
  obtain ⟨m, hm⟩ := h
  exact room_of_trod (v := .slice a n c) (fuel := m) (y := (d, ps)) hm a n c rfl

end Go.Proofs.YtmiinhbffiodmaaDoor
