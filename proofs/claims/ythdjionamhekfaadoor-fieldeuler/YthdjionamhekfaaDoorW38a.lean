/- The walks of squares and SquaresOf. -/
import Derived.Test.YthdjionamhekfaaDoorW37
namespace Go.Proofs.YthdjionamhekfaaDoor
open Go.RowKit

section
variable {P K : Nat} {m : Nat → Int}
/-- Is a number the square of an element but 0, of those below a bound? -/
def foundTo (P K : Nat) (m : Nat → Int) (a j : Nat) : Bool := (List.range a).any fun b => decide (1 ≤ b) && mulQ P K m b b == j
def isSq (P K : Nat) (m : Nat → Int) (j : Nat) : Bool := foundTo P K m (P ^ K) j
theorem foundTo_succ (a j : Nat) (ha : 1 ≤ a) : foundTo P K m (a + 1) j = (foundTo P K m a j || mulQ P K m a a == j) := by
  unfold foundTo
  rw [List.range_succ, List.any_append]
  simp [ha]
theorem foundTo_one (j : Nat) : foundTo P K m 1 j = false := by simp [foundTo, List.range, List.range.loop]
/-- The squares below a bound, rising. -/
def sqTo (P K : Nat) (m : Nat → Int) (a : Nat) : List Int := ((List.range a).filter (isSq P K m)).map fun n : Nat => (n : Int)
theorem sqTo_yes (a : Nat) (h : isSq P K m a = true) : sqTo P K m (a + 1) = sqTo P K m a ++ [(a : Int)] := by
  unfold sqTo; rw [List.range_succ, List.filter_append]; simp [h]
theorem sqTo_no (a : Nat) (h : isSq P K m a = false) : sqTo P K m (a + 1) = sqTo P K m a := by
  unfold sqTo; rw [List.range_succ, List.filter_append]; simp [h]
theorem sqTo_len (a : Nat) : (sqTo P K m a).length ≤ a := by
  unfold sqTo; rw [List.length_map]
  exact Nat.le_trans (List.length_filter_le _ _) (by simp)
theorem isSq_lt (hR : Ring1 P K m) {j : Nat} (h : isSq P K m j = true) : j < P ^ K := by
  unfold isSq foundTo at h
  rw [List.any_eq_true] at h
  obtain ⟨b, _, h⟩ := h
  simp only [Bool.and_eq_true, beq_iff_eq] at h
  rw [← h.2]; exact mulQ_lt hR b b
theorem mulQ_ne_zero (hF : FieldQ P K m) {a : Nat} (h1 : 1 ≤ a) (ha : a < P ^ K) : mulQ P K m a a ≠ 0 := by
  intro h
  have hR := hF.toRing1
  have hi := inv_ok hF h1 ha
  have h2 : mulQ P K m (powQ P K m a (P ^ K - 2)) (mulQ P K m a a) = a := by
    rw [← mulQ_assoc hR, mulQ_comm hR (powQ P K m a (P ^ K - 2)) a, hi, one_mulQ hR ha]
  rw [h, mulQ_zero hR] at h2
  omega
theorem isSq_zero (hF : FieldQ P K m) : isSq P K m 0 = false := by
  rw [Bool.eq_false_iff]
  intro h
  unfold isSq foundTo at h
  rw [List.any_eq_true] at h
  obtain ⟨b, hb, h⟩ := h
  simp only [Bool.and_eq_true, beq_iff_eq, decide_eq_true_eq] at h
  exact mulQ_ne_zero hF h.1 (by simpa using hb) h.2
theorem sqTo_more (hR : Ring1 P K m) : ∀ d, sqTo P K m (P ^ K + d) = sqTo P K m (P ^ K)
  | 0 => rfl
  | d + 1 => by
    rw [show P ^ K + (d + 1) = (P ^ K + d) + 1 by omega, sqTo_no _ (by rw [Bool.eq_false_iff]; intro h; have := isSq_lt hR h; omega)]
    exact sqTo_more hR d
theorem sqTo_one (hF : FieldQ P K m) : sqTo P K m 1 = [] := by
  have h := sqTo_no (P := P) (K := K) (m := m) 0 (isSq_zero hF)
  exact h
end

/-- A row of 64 bools. -/
def brow (f : Nat → Bool) : Array Value := ((List.range 64).map fun j => Value.bool (f j)).toArray
theorem brow_size (f : Nat → Bool) : (brow f).size = 64 := by simp [brow]
theorem brow_at (f : Nat → Bool) (j : Nat) (h : j < 64) : (brow f)[j]? = some (.bool (f j)) := by simp [brow, h]
def updB (f : Nat → Bool) (i : Nat) : Nat → Bool := fun j => if j = i then true else f j
theorem brow_set (f : Nat → Bool) (i : Nat) : (brow f).setIfInBounds i (.bool true) = brow (updB f i) := by
  apply Array.ext_getElem?
  intro j
  rw [Array.getElem?_setIfInBounds]
  by_cases hj : j < 64
  · rw [brow_at _ _ hj]
    by_cases e : i = j
    · subst e; rw [if_pos rfl, brow_at _ _ hj, if_pos (by simpa [brow_size] using hj)]; simp [updB]
    · rw [if_neg e, brow_at _ _ hj]; simp [updB, Ne.symm e]
  · simp [brow, hj]; omega
def BRow (w : World) (g : Nat) (f : Nat → Bool) : Prop := w.heap[g]? = some (.cells (brow f) 51 (0, 0))
theorem BRow.lt {w : World} {g : Nat} {f : Nat → Bool} (h : BRow w g f) : g < w.heap.size := (Array.getElem?_eq_some_iff.1 h).1
theorem BRow.cell {w : World} {g : Nat} {f : Nat → Bool} (h : BRow w g f) (j : Nat) (hj : j < 64) : w.cell? ⟨g, j, none⟩ = some (.bool (f j)) := by rw [cell_of_row w g j _ _ _ h, brow_at _ _ hj]
theorem BRow.frozen {w : World} {g : Nat} {f : Nat → Bool} (h : BRow w g f) (j : Nat) : w.frozen? ⟨g, j, none⟩ = false := frozen_of_row w g j _ _ h
theorem BRow.set {w : World} {g : Nat} {f : Nat → Bool} (h : BRow w g f) (i : Nat) : BRow (w.setCell ⟨g, i, none⟩ (.bool true)) g (updB f i) := by
  unfold BRow; rw [heap_setCell_same w g i _ _ _ h, brow_set]
theorem BRow.below {w w' : World} {g : Nat} {f : Nat → Bool} (h : BRow w g f) (hb : Below w.heap.size w w') : BRow w' g f := (hb.block g h.lt).trans h
theorem BRow.congr {w : World} {g : Nat} {f f' : Nat → Bool} (h : BRow w g f) (e : ∀ j, j < 64 → f j = f' j) : BRow w g f' := by
  have : brow f = brow f' := by
    unfold brow; congr 1; apply List.map_congr_left; intro j hj; rw [e j (by simpa using hj)]
  unfold BRow; rw [← this]; exact h
theorem und66 : Tryd.prog.underlying 51 = some (.array 64 4) := by kernel_rfl
theorem inf66 (f : Nat → Bool) : (Tryd.prog.info? 51).map (·.size) = some (brow f).size := by rw [brow_size]; kernel_rfl

end Go.Proofs.YthdjionamhekfaaDoor
