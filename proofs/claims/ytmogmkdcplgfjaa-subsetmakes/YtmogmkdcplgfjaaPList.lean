/- Lists of numbers that are permutations, and what is wrong with the others; rows of truths. -/
import Derived.Test.YtmogmkdcplgfjaaPBase
namespace Go.Proofs.Ytmogmkdcplgfjaa
open Go.RowKit

def inLB (bd : Int) (l : List Int) : Bool := l.all fun x => decide (0 ≤ x) && decide (x < bd)
theorem inLB_iff (bd : Int) (l : List Int) : inLB bd l = true ↔ ∀ j, j < l.length → 0 ≤ l.getD j 0 ∧ l.getD j 0 < bd := by
  unfold inLB
  rw [List.all_eq_true]
  constructor
  · intro h j hj
    have := h l[j] (List.getElem_mem hj)
    simpa [hj] using this
  · intro h x hx
    obtain ⟨j, hj, rfl⟩ := List.mem_iff_getElem.1 hx
    have := h j hj
    simpa [hj] using this
theorem inLB_no {bd : Int} {l : List Int} (h : ¬ ∀ j, j < l.length → 0 ≤ l.getD j 0 ∧ l.getD j 0 < bd) : inLB bd l = false := by
  rw [Bool.eq_false_iff]; exact fun e => h ((inLB_iff bd l).1 e)
def dupB (l : List Int) : Bool := (List.range l.length).any fun i => (List.range i).any fun j => l.getD i 0 == l.getD j 0
theorem dupB_iff (l : List Int) : dupB l = true ↔ ∃ i j, j < i ∧ i < l.length ∧ l.getD i 0 = l.getD j 0 := by
  unfold dupB
  simp only [List.any_eq_true, List.mem_range, beq_iff_eq]
  constructor
  · rintro ⟨i, hi, j, hj, e⟩; exact ⟨i, j, hj, hi, e⟩
  · rintro ⟨i, j, hj, hi, e⟩; exact ⟨i, hi, j, hj, e⟩
theorem dupB_no {l : List Int} (h : ∀ i j, j < i → i < l.length → l.getD i 0 ≠ l.getD j 0) : dupB l = false := by
  rw [Bool.eq_false_iff]; intro e
  obtain ⟨i, j, h1, h2, h3⟩ := (dupB_iff l).1 e
  exact h i j h1 h2 h3
/-- What is wrong with a permutation. -/
def pF (l : List Int) : Int := if 12 < l.length then 3 else if inLB l.length l = false then 1 else if dupB l = true then 6 else 0
def pl (n : Nat) (f : Nat → Nat) : List Int := (List.range n).map fun i => (f i : Int)
@[simp] theorem pl_len (n : Nat) (f : Nat → Nat) : (pl n f).length = n := by simp [pl]
theorem pl_at {n : Nat} (f : Nat → Nat) {i : Nat} (h : i < n) : (pl n f).getD i 0 = (f i : Int) := by simp [pl, h]
theorem pl_congr {n : Nat} {f g : Nat → Nat} (h : ∀ i, i < n → f i = g i) : pl n f = pl n g := by
  unfold pl
  exact List.map_congr_left fun i hi => by rw [h i (List.mem_range.1 hi)]
theorem pl_inj {n : Nat} {f g : Nat → Nat} (h : pl n f = pl n g) {i : Nat} (hi : i < n) : f i = g i := by
  have h1 := pl_at f hi
  rw [h, pl_at g hi] at h1
  omega
theorem pF_cases (l : List Int) : pF l = 0 ∨ pF l = 1 ∨ pF l = 3 ∨ pF l = 6 := by
  unfold pF
  split
  · exact .inr (.inr (.inl rfl))
  · split
    · exact .inr (.inl rfl)
    · split
      · exact .inr (.inr (.inr rfl))
      · exact .inl rfl
theorem pF_ok {l : List Int} (h : pF l = 0) : ∃ n f, n ≤ 12 ∧ Pm n f ∧ l = pl n f := by
  unfold pF at h
  by_cases h1 : 12 < l.length
  · rw [if_pos h1] at h; omega
  · rw [if_neg h1] at h
    by_cases h2 : inLB l.length l = false
    · rw [if_pos h2] at h; omega
    · rw [if_neg h2] at h
      by_cases h3 : dupB l = true
      · rw [if_pos h3] at h; omega
      · have h2 := (inLB_iff _ _).1 (Bool.not_eq_false _ ▸ h2)
        refine ⟨l.length, fun i => (l.getD i 0).toNat, by omega, ⟨fun i hi => ?_, fun i j hi hj e => ?_⟩, ?_⟩
        · have := h2 i hi; show (l.getD i 0).toNat < _; omega
        · have e : (l.getD i 0).toNat = (l.getD j 0).toNat := e
          have a1 := h2 i hi
          have a2 := h2 j hj
          have e' : l.getD i 0 = l.getD j 0 := by omega
          rcases Nat.lt_trichotomy i j with h4 | h4 | h4
          · exact absurd ((dupB_iff l).2 ⟨j, i, h4, hj, e'.symm⟩) h3
          · exact h4
          · exact absurd ((dupB_iff l).2 ⟨i, j, h4, hi, e'⟩) h3
        · refine List.ext_getElem (by simp) fun i h4 h5 => ?_
          have e1 : l.getD i 0 = l[i] := by simp [h4]
          have := h2 i h4
          simp only [pl, List.getElem_map, List.getElem_range]
          rw [Int.toNat_of_nonneg (by omega), e1]
theorem pF_pl {n : Nat} {f : Nat → Nat} (P : Pm n f) (hn : n ≤ 12) : pF (pl n f) = 0 := by
  unfold pF
  rw [if_neg (by simp; omega)]
  have h1 : inLB (pl n f).length (pl n f) = true := (inLB_iff _ _).2 fun j hj => by
    rw [pl_len] at hj
    rw [pl_at f hj, pl_len]
    have := P.lt j hj
    omega
  rw [h1, if_neg (by simp)]
  rw [dupB_no (fun i j h2 h3 e => ?_)]
  · simp
  · rw [pl_len] at h3
    rw [pl_at f h3, pl_at f (by omega)] at e
    have := P.inj i j h3 (by omega) (by omega)
    omega
theorem pF_len {l : List Int} (h : pF l = 0) : l.length ≤ 12 := by
  obtain ⟨n, f, hn, _, rfl⟩ := pF_ok h
  simpa using hn

/-- A row of 12 truths. -/
def brow (f : Nat → Bool) : Array Value := ((List.range 12).map fun j => Value.bool (f j)).toArray
theorem brow_size (f : Nat → Bool) : (brow f).size = 12 := by simp [brow]
theorem brow_at (f : Nat → Bool) (j : Nat) (h : j < 12) : (brow f)[j]? = some (.bool (f j)) := by simp [brow, h]
def updB (f : Nat → Bool) (i : Nat) : Nat → Bool := fun j => if j = i then true else f j
theorem brow_set (f : Nat → Bool) (i : Nat) : (brow f).setIfInBounds i (.bool true) = brow (updB f i) := by
  apply Array.ext_getElem?
  intro j
  rw [Array.getElem?_setIfInBounds]
  by_cases hj : j < 12
  · rw [brow_at _ _ hj]
    by_cases e : i = j
    · subst e; rw [if_pos rfl, brow_at _ _ hj, if_pos (by simpa [brow_size] using hj)]; simp [updB]
    · rw [if_neg e, brow_at _ _ hj]; simp [updB, Ne.symm e]
  · simp [brow, hj]; omega
def BRow (w : World) (g : Nat) (f : Nat → Bool) : Prop := w.heap[g]? = some (.cells (brow f) 73 (0, 0))
theorem BRow.lt {w : World} {g : Nat} {f : Nat → Bool} (h : BRow w g f) : g < w.heap.size := (Array.getElem?_eq_some_iff.1 h).1
theorem BRow.cell {w : World} {g : Nat} {f : Nat → Bool} (h : BRow w g f) (j : Nat) (hj : j < 12) : w.cell? ⟨g, j, none⟩ = some (.bool (f j)) := by rw [cell_of_row w g j _ _ _ h, brow_at _ _ hj]
theorem BRow.frozen {w : World} {g : Nat} {f : Nat → Bool} (h : BRow w g f) (j : Nat) : w.frozen? ⟨g, j, none⟩ = false := frozen_of_row w g j _ _ h
theorem BRow.set {w : World} {g : Nat} {f : Nat → Bool} (h : BRow w g f) (i : Nat) : BRow (w.setCell ⟨g, i, none⟩ (.bool true)) g (updB f i) := by
  unfold BRow; rw [heap_setCell_same w g i _ _ _ h, brow_set]
theorem BRow.below {w w' : World} {g : Nat} {f : Nat → Bool} (h : BRow w g f) (hb : Below w.heap.size w w') : BRow w' g f := (hb.block g h.lt).trans h
theorem BRow.congr {w : World} {g : Nat} {f f' : Nat → Bool} (h : BRow w g f) (e : ∀ j, j < 12 → f j = f' j) : BRow w g f' := by
  have : brow f = brow f' := by
    unfold brow; congr 1; apply List.map_congr_left; intro j hj; rw [e j (by simpa using hj)]
  unfold BRow; rw [← this]; exact h
theorem BRow.made0 (w : World) : BRow (w.alloc (.cells #[.bool false, .bool false, .bool false, .bool false, .bool false, .bool false, .bool false, .bool false, .bool false, .bool false, .bool false, .bool false] 73)) w.heap.size (fun _ => false) := heap_alloc_new w _

end Go.Proofs.Ytmogmkdcplgfjaa
