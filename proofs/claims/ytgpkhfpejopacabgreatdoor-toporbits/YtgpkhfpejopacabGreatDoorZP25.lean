/- The walks of Unrank and PermOfRank. -/
import Derived.Test.YtgpkhfpejopacabGreatDoorZP33
import Derived.Test.YtgpkhfpejopacabGreatDoorZPUnr
import Derived.Test.YtgpkhfpejopacabGreatDoorZPCyc
namespace Go.Proofs.YtgpkhfpejopacabGreatDoor.Gc
open Go.RowKit
/-- A list of numbers as values. -/
def vl (l : List Nat) : List Value := (l.map Int.ofNat).map (Value.int .i64)
theorem own_vl {w : World} {base n : Nat} {v : Value} {l : List Nat} (h : w.ownsRow base 3 1 v n (vl l)) (hn : l.length = n) : Sl w v (l.map Int.ofNat) := Sl.owned (by rw [List.length_map, hn]; exact h)

/-- A row of truths of the call's own. -/
def OwnB (w : World) (g n : Nat) (f : Nat → Bool) : Prop := ∃ cur, w.heap[g]? = some (.cells cur 4 (0, 0)) ∧ ∀ j, j < n → cur[j]? = some (.bool (f j))
theorem OwnB.lt {w : World} {g n : Nat} {f : Nat → Bool} (h : OwnB w g n f) : g < w.heap.size := by
  obtain ⟨cur, h, _⟩ := h
  exact (Array.getElem?_eq_some_iff.1 h).1
theorem OwnB.cell {w : World} {g n : Nat} {f : Nat → Bool} (h : OwnB w g n f) (j : Nat) (hj : j < n) : w.cell? ⟨g, j, none⟩ = some (.bool (f j)) := by
  obtain ⟨cur, h, hc⟩ := h
  rw [cell_of_row w g j _ _ _ h, hc j hj]
theorem OwnB.frozen {w : World} {g n : Nat} {f : Nat → Bool} (h : OwnB w g n f) (j : Nat) : w.frozen? ⟨g, j, none⟩ = false := by
  obtain ⟨cur, h, _⟩ := h
  exact frozen_of_row w g j _ _ h
theorem OwnB.set {w : World} {g n : Nat} {f : Nat → Bool} (h : OwnB w g n f) (i : Nat) : OwnB (w.setCell ⟨g, i, none⟩ (.bool true)) g n (upU f i) := by
  obtain ⟨cur, h, hc⟩ := h
  refine ⟨_, heap_setCell_same w g i _ _ _ h, fun j hj => ?_⟩
  have hcj := hc j hj
  rw [Array.getElem?_setIfInBounds]
  unfold upU
  by_cases e : i = j
  · subst e
    rw [if_pos rfl, if_pos rfl, if_pos (Array.getElem?_eq_some_iff.1 hcj).1]
  · rw [if_neg e, if_neg (fun h => e h.symm), hcj]
theorem OwnB.below {w w' : World} {g n B : Nat} {f : Nat → Bool} (h : OwnB w g n f) (hb : Below B w w') (hB : g < B) : OwnB w' g n f := by
  obtain ⟨cur, h, hc⟩ := h
  exact ⟨cur, (hb.block g hB).trans h, hc⟩
end Go.Proofs.YtgpkhfpejopacabGreatDoor.Gc
