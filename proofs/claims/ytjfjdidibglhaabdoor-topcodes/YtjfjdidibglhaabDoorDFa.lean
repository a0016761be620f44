/- The walk of the document's DesignFault. -/
import Derived.Test.YtjfjdidibglhaabDoorPBase
import Derived.Deep.QuietTactic
import Derived.BigQuiet
import Derived.Deep.RegionHeld3
import Derived.Deep.MidRow
/- Lists of numbers that are permutations, and what is wrong with the others; rows of truths. -/
namespace Go.Proofs.YtjfjdidibglhaabDoor
open Go.RowKit

def inLB (bd : Int) (l : List Int) : Bool := l.all fun x => decide (0 ≤ x) && decide (x < bd)
theorem inLB_iff (bd : Int) (l : List Int) : inLB bd l = true ↔ ∀ j, j < l.length → 0 ≤ l.getD j 0 ∧ l.getD j 0 < bd := by
  unfold inLB
  rw [List.all_eq_true]
  constructor
  · intro h j hj
    have := h l[j] (List.getElem_mem hj)
    simpa [hj] using this
  · intro h x hx
    obtain ⟨j, hj, rfl⟩ := List.mem_iff_getElem.1 hx
    have := h j hj
    simpa [hj] using this
theorem inLB_no {bd : Int} {l : List Int} (h : ¬ ∀ j, j < l.length → 0 ≤ l.getD j 0 ∧ l.getD j 0 < bd) : inLB bd l = false := by
  rw [Bool.eq_false_iff]; exact fun e => h ((inLB_iff bd l).1 e)
def pl (n : Nat) (f : Nat → Nat) : List Int := (List.range n).map fun i => (f i : Int)
@[simp] theorem pl_len (n : Nat) (f : Nat → Nat) : (pl n f).length = n := by simp [pl]
/-- A row of 12 truths. -/
def brow (f : Nat → Bool) : Array Value := ((List.range 12).map fun j => Value.bool (f j)).toArray
theorem brow_size (f : Nat → Bool) : (brow f).size = 12 := by simp [brow]
theorem brow_at (f : Nat → Bool) (j : Nat) (h : j < 12) : (brow f)[j]? = some (.bool (f j)) := by simp [brow, h]
def updB (f : Nat → Bool) (i : Nat) : Nat → Bool := fun j => if j = i then true else f j
theorem brow_set (f : Nat → Bool) (i : Nat) : (brow f).setIfInBounds i (.bool true) = brow (updB f i) := by
  apply Array.ext_getElem?
  intro j
  rw [Array.getElem?_setIfInBounds]
  by_cases hj : j < 12
  · rw [brow_at _ _ hj]
    by_cases e : i = j
    · subst e; rw [if_pos rfl, brow_at _ _ hj, if_pos (by simpa [brow_size] using hj)]; simp [updB]
    · rw [if_neg e, brow_at _ _ hj]; simp [updB, Ne.symm e]
  · simp [brow, hj]; omega
def BRow (w : World) (g : Nat) (f : Nat → Bool) : Prop := w.heap[g]? = some (.cells (brow f) 53 (0, 0))
theorem BRow.lt {w : World} {g : Nat} {f : Nat → Bool} (h : BRow w g f) : g < w.heap.size := (Array.getElem?_eq_some_iff.1 h).1
theorem BRow.cell {w : World} {g : Nat} {f : Nat → Bool} (h : BRow w g f) (j : Nat) (hj : j < 12) : w.cell? ⟨g, j, none⟩ = some (.bool (f j)) := by rw [cell_of_row w g j _ _ _ h, brow_at _ _ hj]
theorem BRow.frozen {w : World} {g : Nat} {f : Nat → Bool} (h : BRow w g f) (j : Nat) : w.frozen? ⟨g, j, none⟩ = false := frozen_of_row w g j _ _ h
theorem BRow.set {w : World} {g : Nat} {f : Nat → Bool} (h : BRow w g f) (i : Nat) : BRow (w.setCell ⟨g, i, none⟩ (.bool true)) g (updB f i) := by
  unfold BRow; rw [heap_setCell_same w g i _ _ _ h, brow_set]
theorem BRow.below {w w' : World} {g : Nat} {f : Nat → Bool} (h : BRow w g f) (hb : Below w.heap.size w w') : BRow w' g f := (hb.block g h.lt).trans h
theorem BRow.congr {w : World} {g : Nat} {f f' : Nat → Bool} (h : BRow w g f) (e : ∀ j, j < 12 → f j = f' j) : BRow w g f' := by
  have : brow f = brow f' := by
    unfold brow; congr 1; apply List.map_congr_left; intro j hj; rw [e j (by simpa using hj)]
  unfold BRow; rw [← this]; exact h
theorem BRow.made0 (w : World) : BRow (w.alloc (.cells #[.bool false, .bool false, .bool false, .bool false, .bool false, .bool false, .bool false, .bool false, .bool false, .bool false, .bool false, .bool false] 53)) w.heap.size (fun _ => false) := heap_alloc_new w _

end Go.Proofs.YtjfjdidibglhaabDoor

/- The walks of the document's Lies and all. -/
namespace Go.Proofs.YtjfjdidibglhaabDoor
open Go.RowKit

theorem ofNat_at (b : List Nat) {j : Nat} (hj : j < b.length) : (b.map Int.ofNat).getD j 0 = ((b.getD j 0 : Nat) : Int) := by
  simp [hj]
end Go.Proofs.YtjfjdidibglhaabDoor

namespace Go.Proofs.YtjfjdidibglhaabDoor
open Go.RowKit

/-- Rows of rows that are read. -/
def Rw (w : World) (v : Value) (ls : List (List Int)) : Prop := ∃ a cap, v = .slice a ls.length cap ∧ ∀ i l, ls[i]? = some l → ∃ b off u, a = some ⟨b, off, none⟩ ∧ w.cell? ⟨b, off + i, none⟩ = some u ∧ Sl w u l
theorem Rw.below {w w' : World} {v : Value} {ls : List (List Int)} (h : Rw w v ls) (hb : Below w.heap.size w w') : Rw w' v ls := by
  obtain ⟨a, cap, rfl, h⟩ := h
  refine ⟨a, cap, rfl, fun i l hl => ?_⟩
  obtain ⟨b, off, u, e, hc, hS⟩ := h i l hl
  exact ⟨b, off, u, e, (hb.cell (World.block_lt_of_cell? _ _ hc)).trans hc, hS.below hb⟩
/-- A design in a box, as it is read later. -/
theorem des_box (s : Int) (u : Value) (w : World) : ∀ W, Below (w.alloc (.cells #[.int .i64 s, u] 44)).heap.size (w.alloc (.cells #[.int .i64 s, u] 44)) W →
    W.cell? ⟨w.heap.size, 0, none⟩ = some (.int .i64 s) ∧ W.cell? ⟨w.heap.size, 1, none⟩ = some u := fun W b => by
  have k1 := (b.block w.heap.size (by simp)).trans (heap_alloc_new w (.cells #[.int .i64 s, u] 44))
  exact ⟨by rw [cell_of_row _ _ _ _ _ _ k1]; rfl, by rw [cell_of_row _ _ _ _ _ _ k1]; rfl⟩
/-- What is wrong with a block. -/
def bF (p : Int) (b : List Int) : Nat := if (List.range b.length).all (fun j => decide (0 ≤ b.getD j 0) && decide (b.getD j 0 < p)) then (if (List.range b.length).all (fun j => decide (j = 0 ∨ b.getD (j - 1) 0 < b.getD j 0)) then 0 else 2) else 1
def blF (p : Int) : List (List Int) → Nat
  | [] => 0
  | b :: bs => if bF p b ≠ 0 then bF p b else blF p bs
def dF (p : Int) (ls : List (List Int)) : Nat := if p < 1 ∨ 40 < p then 1 else if 200 < ls.length then 3 else blF p ls
theorem bF_out {p : Int} {b : List Int} {j : Nat} (hj : j < b.length) (h : ¬ (0 ≤ b.getD j 0 ∧ b.getD j 0 < p)) : bF p b = 1 := by
  unfold bF
  rw [if_neg]
  intro k
  have := List.all_eq_true.1 k j (List.mem_range.2 hj)
  rw [Bool.and_eq_true, decide_eq_true_eq, decide_eq_true_eq] at this
  exact h this
theorem bF_in {p : Int} {b : List Int} (h : ∀ j, j < b.length → 0 ≤ b.getD j 0 ∧ b.getD j 0 < p) : bF p b = if (List.range b.length).all (fun j => decide (j = 0 ∨ b.getD (j - 1) 0 < b.getD j 0)) then 0 else 2 := by
  unfold bF
  rw [if_pos]
  rw [List.all_eq_true]
  intro j hj
  have := h j (List.mem_range.1 hj)
  rw [Bool.and_eq_true, decide_eq_true_eq, decide_eq_true_eq]
  exact this
theorem bF_fall {p : Int} {b : List Int} {j : Nat} (h : ∀ j, j < b.length → 0 ≤ b.getD j 0 ∧ b.getD j 0 < p) (h1 : 1 ≤ j) (hj : j < b.length) (hf : b.getD j 0 ≤ b.getD (j - 1) 0) : bF p b = 2 := by
  rw [bF_in h, if_neg]
  intro k
  have := List.all_eq_true.1 k j (List.mem_range.2 hj)
  rw [decide_eq_true_eq] at this
  omega
theorem bF_ok {p : Int} {b : List Int} (h : ∀ j, j < b.length → 0 ≤ b.getD j 0 ∧ b.getD j 0 < p) (hr : ∀ j, 1 ≤ j → j < b.length → b.getD (j - 1) 0 < b.getD j 0) : bF p b = 0 := by
  rw [bF_in h, if_pos]
  rw [List.all_eq_true]
  intro j hj
  rw [decide_eq_true_eq]
  by_cases e : j = 0
  · exact .inl e
  · exact .inr (hr j (by omega) (List.mem_range.1 hj))
theorem blF_at {p : Int} : ∀ {ls : List (List Int)} {i : Nat} {b : List Int}, ls[i]? = some b → (∀ m c, m < i → ls[m]? = some c → bF p c = 0) → bF p b ≠ 0 → blF p ls = bF p b
  | [], i, b, h, _, _ => by simp at h
  | c :: ls, 0, b, h, _, hn => by
    obtain rfl : c = b := by simpa using h
    unfold blF
    rw [if_pos hn]
  | c :: ls, i + 1, b, h, hm, hn => by
    have h0 := hm 0 c (by omega) rfl
    unfold blF
    rw [if_neg (by omega)]
    exact blF_at (i := i) (by simpa using h) (fun m d hd e => hm (m + 1) d (by omega) (by simpa using e)) hn
theorem blF_none {p : Int} : ∀ {ls : List (List Int)}, (∀ (m : Nat) (c : List Int), ls[m]? = some c → bF p c = 0) → blF p ls = 0
  | [], _ => rfl
  | c :: ls, h => by
    have h0 := h 0 c rfl
    unfold blF
    rw [if_neg (by omega)]
    exact blF_none fun m d e => h (m + 1) d (by simpa using e)
end Go.Proofs.YtjfjdidibglhaabDoor
