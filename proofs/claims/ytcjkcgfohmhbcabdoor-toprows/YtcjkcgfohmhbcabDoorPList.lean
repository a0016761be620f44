/- Lists of numbers that are permutations, and what is wrong with the others; rows of truths. -/
import Derived.Test.YtcjkcgfohmhbcabDoorPBase
namespace Go.Proofs.YtcjkcgfohmhbcabDoor
open Go.RowKit

def inLB (bd : Int) (l : List Int) : Bool := l.all fun x => decide (0 ≤ x) && decide (x < bd)
theorem inLB_iff (bd : Int) (l : List Int) : inLB bd l = true ↔ ∀ j, j < l.length → 0 ≤ l.getD j 0 ∧ l.getD j 0 < bd := by
  unfold inLB
  rw [List.all_eq_true]
  constructor
  · intro h j hj
    have := h l[j] (List.getElem_mem hj)
    simpa [hj] using this
  · intro h x hx
    obtain ⟨j, hj, rfl⟩ := List.mem_iff_getElem.1 hx
    have := h j hj
    simpa [hj] using this
theorem inLB_no {bd : Int} {l : List Int} (h : ¬ ∀ j, j < l.length → 0 ≤ l.getD j 0 ∧ l.getD j 0 < bd) : inLB bd l = false := by
  rw [Bool.eq_false_iff]; exact fun e => h ((inLB_iff bd l).1 e)
def pl (n : Nat) (f : Nat → Nat) : List Int := (List.range n).map fun i => (f i : Int)
@[simp] theorem pl_len (n : Nat) (f : Nat → Nat) : (pl n f).length = n := by simp [pl]
/-- A row of 12 truths. -/
def brow (f : Nat → Bool) : Array Value := ((List.range 12).map fun j => Value.bool (f j)).toArray
theorem brow_size (f : Nat → Bool) : (brow f).size = 12 := by simp [brow]
theorem brow_at (f : Nat → Bool) (j : Nat) (h : j < 12) : (brow f)[j]? = some (.bool (f j)) := by simp [brow, h]
def updB (f : Nat → Bool) (i : Nat) : Nat → Bool := fun j => if j = i then true else f j
theorem brow_set (f : Nat → Bool) (i : Nat) : (brow f).setIfInBounds i (.bool true) = brow (updB f i) := by
  apply Array.ext_getElem?
  intro j
  rw [Array.getElem?_setIfInBounds]
  by_cases hj : j < 12
  · rw [brow_at _ _ hj]
    by_cases e : i = j
    · subst e; rw [if_pos rfl, brow_at _ _ hj, if_pos (by simpa [brow_size] using hj)]; simp [updB]
    · rw [if_neg e, brow_at _ _ hj]; simp [updB, Ne.symm e]
  · simp [brow, hj]; omega
def BRow (w : World) (g : Nat) (f : Nat → Bool) : Prop := w.heap[g]? = some (.cells (brow f) 188 (0, 0))
theorem BRow.lt {w : World} {g : Nat} {f : Nat → Bool} (h : BRow w g f) : g < w.heap.size := (Array.getElem?_eq_some_iff.1 h).1
theorem BRow.cell {w : World} {g : Nat} {f : Nat → Bool} (h : BRow w g f) (j : Nat) (hj : j < 12) : w.cell? ⟨g, j, none⟩ = some (.bool (f j)) := by rw [cell_of_row w g j _ _ _ h, brow_at _ _ hj]
theorem BRow.frozen {w : World} {g : Nat} {f : Nat → Bool} (h : BRow w g f) (j : Nat) : w.frozen? ⟨g, j, none⟩ = false := frozen_of_row w g j _ _ h
theorem BRow.set {w : World} {g : Nat} {f : Nat → Bool} (h : BRow w g f) (i : Nat) : BRow (w.setCell ⟨g, i, none⟩ (.bool true)) g (updB f i) := by
  unfold BRow; rw [heap_setCell_same w g i _ _ _ h, brow_set]
theorem BRow.below {w w' : World} {g : Nat} {f : Nat → Bool} (h : BRow w g f) (hb : Below w.heap.size w w') : BRow w' g f := (hb.block g h.lt).trans h
theorem BRow.congr {w : World} {g : Nat} {f f' : Nat → Bool} (h : BRow w g f) (e : ∀ j, j < 12 → f j = f' j) : BRow w g f' := by
  have : brow f = brow f' := by
    unfold brow; congr 1; apply List.map_congr_left; intro j hj; rw [e j (by simpa using hj)]
  unfold BRow; rw [← this]; exact h
theorem BRow.made0 (w : World) : BRow (w.alloc (.cells #[.bool false, .bool false, .bool false, .bool false, .bool false, .bool false, .bool false, .bool false, .bool false, .bool false, .bool false, .bool false] 188)) w.heap.size (fun _ => false) := heap_alloc_new w _

end Go.Proofs.YtcjkcgfohmhbcabDoor
