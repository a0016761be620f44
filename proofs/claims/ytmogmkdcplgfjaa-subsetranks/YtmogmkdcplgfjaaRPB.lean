/- How the laws' arguments are opened: slices of numbers as they came in. -/
import Derived.Test.YtmogmkdcplgfjaaPBase
import Derived.Test.YtmogmkdcplgfjaaRows
import Derived.Test.YtmogmkdcplgfjaaChecked
import Derived.ProofKit
import Derived.SizedLaws
import Derived.OpenShut
import Derived.Stop.Joined
import Derived.ChangeOld
import Derived.Lib.SmallJoins
namespace Go.Proofs.Ytmogmkdcplgfjaa
open Go.ChangeShapes Go.WideShapes Go.ChangeAt Go.RowKit Go.Joins

theorem own : ownKnob Try.prog.godebug = none := by kernel_rfl
theorem laidOut : laidOutB Try.prog = true := by kernel_rfl
theorem cells3 : Try.prog.cellsOf 3 = 1 := by kernel_rfl
theorem sl_of_trod {H : Type} {enc : TypeId × Value → H} {W : World} {fuel : Nat} {v : Value} {y : DataW H × List MemPlace} (h : DataW.trod enc Try.prog W 0 (fun _ => true) true fuel 22 [v] = some y) : ∃ l, Sl W v l ∧ l.length ≤ maxLen := by
  rcases open_ints und22 und3 cells3 h with ⟨hcs, _⟩ | ⟨a, len, cap, zs, hcs, _, hl, hm, hz, _, hcell, _⟩
  · simp only [List.cons.injEq, and_true] at hcs
    subst hcs
    exact ⟨[], Sl.nil W, by simp⟩
  · simp only [List.cons.injEq, and_true] at hcs
    subst hcs
    simp only [if_true] at hz
    have hlen : (zs.take len).length = len := by rw [List.length_take]; omega
    refine ⟨zs.take len, ⟨some a, cap, by rw [hlen], fun j hj => ?_⟩, by omega⟩
    rw [hlen] at hj
    obtain ⟨b, off, rfl, hc⟩ := ints_at hcell (by omega)
    refine ⟨b, off, rfl, ?_⟩
    rw [hc j (by omega)]
    simp [List.getD_eq_getElem?_getD, hj]
theorem sl_of_trod' {H : Type} {enc : TypeId × Value → H} {W : World} {r : Reach} {b0 : Nat} {v : Value} {d : DataW H} {ps : List MemPlace} (hv : Value.okWide Try.prog W r b0 22 v) (h : DataW.Trod enc Try.prog W 0 (fun _ => true) true 22 v d ps) : ∃ l, Sl W v l ∧ l.length ≤ maxLen := by
  obtain ⟨a, len, cap, rfl⟩ := okWide_slice und22 hv
  obtain ⟨m, hm⟩ := h
  exact sl_of_trod (fuel := m) (y := (d, ps)) hm

theorem room_of_trod {H : Type} {enc : TypeId × Value → H} {W : World} {fuel : Nat} {v : Value} {y : DataW H × List MemPlace} (h : DataW.trod enc Try.prog W 0 (fun _ => true) true fuel 22 [v] = some y) : ∀ a n c, v = .slice a n c → n ≤ c := by
  rcases open_ints und22 und3 cells3 h with ⟨hcs, _⟩ | ⟨a', len, cap, zs, hcs, _, hl, hm', hz, _, hcell, _⟩
  · simp only [List.cons.injEq, and_true] at hcs
    subst hcs
    intro a n c e
    simp only [Value.slice.injEq] at e
    omega
  · simp only [List.cons.injEq, and_true] at hcs
    subst hcs
    intro a n c e
    simp only [Value.slice.injEq] at e
    omega
theorem room_of_trod' {H : Type} {enc : TypeId × Value → H} {W : World} {v : Value} {d : DataW H} {ps : List MemPlace} (h : DataW.Trod enc Try.prog W 0 (fun _ => true) true 22 v d ps) : ∀ a n c, v = .slice a n c → n ≤ c := by
  intro a n c e
  subst e
  obtain ⟨m, hm⟩ := h
  exact room_of_trod (v := .slice a n c) (fuel := m) (y := (d, ps)) hm a n c rfl

end Go.Proofs.Ytmogmkdcplgfjaa
