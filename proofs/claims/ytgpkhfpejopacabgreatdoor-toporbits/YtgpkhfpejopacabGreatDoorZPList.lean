/- Lists of numbers that are permutations, and what is wrong with the others; rows of truths. -/
import Derived.Test.YtgpkhfpejopacabGreatDoorProg
import Derived.Test.YtgpkhfpejopacabGreatDoorZPPure
import Derived.WalkKit
import Derived.WalkSpells
import Derived.WalkLawsBesides
/- Small facts that the walks share: slices that are read, rows of the call's own, rows of truths. -/
namespace Go.Proofs.YtgpkhfpejopacabGreatDoor.Gc
open Go.RowKit

/-- One number of a row changed. -/
def upd (f : Nat → Int) (i : Nat) (v : Int) : Nat → Int := fun j => if j = i then v else f j

theorem ret_int {k : IntKind} {a b : Int} (h : a = b) : Ending.returned (.int k a) = .returned (.int k b) := by rw [h]
theorem ret_bool {a b : Bool} (h : a = b) : Ending.returned (.bool a) = .returned (.bool b) := by rw [h]
theorem Below.next {a b c : World} (h : Below a.heap.size a b) (k : Below b.heap.size b c) : Below a.heap.size a c := h.trans (k.mono h.size)
set_option maxRecDepth 100000 in
theorem und3 : Tryz.prog.underlying 3 = some (.int .i64) := by kernel_rfl
set_option maxRecDepth 100000 in
theorem und22 : Tryz.prog.underlying 29 = some (.slice 3) := by kernel_rfl
set_option maxRecDepth 100000 in
theorem info3 : ∃ i, Tryz.prog.info? 3 = some i ∧ i.zero = some (.int .i64 0) ∧ i.size = 1 ∧ i.bytes = 8 := by
  have h1 : (Tryz.prog.info? 3).map (·.zero) = some (some (.int .i64 0)) := by kernel_rfl
  have h2 : (Tryz.prog.info? 3).map (·.size) = some 1 := by kernel_rfl
  have h3 : (Tryz.prog.info? 3).map (·.bytes) = some 8 := by kernel_rfl
  cases h : Tryz.prog.info? 3 with
  | none => rw [h] at h1; cases h1
  | some i =>
    rw [h] at h1 h2 h3
    exact ⟨i, rfl, Option.some.inj h1, Option.some.inj h2, Option.some.inj h3⟩

/-- The value is a slice that reads as the list of numbers. -/
def Sl (w : World) (v : Value) (l : List Int) : Prop := ∃ (a : Option Addr) (cap : Nat), v = .slice a l.length cap ∧ ∀ j, j < l.length → ∃ b off, a = some ⟨b, off, none⟩ ∧ w.cell? ⟨b, off + j, none⟩ = some (.int .i64 (l.getD j 0))
theorem Sl.below {w w' : World} {v : Value} {l : List Int} (h : Sl w v l) (hb : Below w.heap.size w w') : Sl w' v l := by
  obtain ⟨a, cap, rfl, h⟩ := h
  refine ⟨a, cap, rfl, fun j hj => ?_⟩
  obtain ⟨b, off, e, hc⟩ := h j hj
  exact ⟨b, off, e, (hb.cell (p := ⟨b, off + j, none⟩) (block_lt_of_cell hc)).trans hc⟩
theorem Sl.nil (w : World) : Sl w (.slice none 0 0) [] := ⟨none, 0, rfl, fun j hj => by simp at hj⟩
theorem Sl.owned {w : World} {base : Nat} {v : Value} {l : List Int} (h : w.ownsRow base 3 1 v l.length (l.map (Value.int .i64))) : Sl w v l := by
  obtain ⟨_, ⟨rfl, hn⟩ | ⟨g, cap, cur, rfl, _, hg, _, _, _, ht⟩⟩ := h
  · have : l = [] := List.length_eq_zero_iff.1 hn
    subst this
    exact Sl.nil w
  · refine ⟨_, cap, rfl, fun j hj => ⟨g, 0, rfl, ?_⟩⟩
    rw [cell_of_row w g _ cur 3 (0, 0) hg]
    have h2 : (cur.toList.take (l.length * 1))[j]? = (l.map (Value.int .i64))[j]? := by rw [ht]
    rw [List.getElem?_take, if_pos (by omega)] at h2
    rw [Nat.zero_add, ← Array.getElem?_toList, h2]
    simp [hj]

/-- Block g is a row of the call's own whose first n numbers are f's. -/
def Own (w : World) (g n : Nat) (f : Nat → Int) : Prop := ∃ cur, w.heap[g]? = some (.cells cur 3 (0, 0)) ∧ ∀ j, j < n → cur[j]? = some (.int .i64 (f j))
theorem Own.lt {w : World} {g n : Nat} {f : Nat → Int} (h : Own w g n f) : g < w.heap.size := by
  obtain ⟨cur, h, _⟩ := h
  exact (Array.getElem?_eq_some_iff.1 h).1
theorem Own.cell {w : World} {g n : Nat} {f : Nat → Int} (h : Own w g n f) (j : Nat) (hj : j < n) : w.cell? ⟨g, j, none⟩ = some (.int .i64 (f j)) := by
  obtain ⟨cur, h, hc⟩ := h
  rw [cell_of_row w g j _ _ _ h, hc j hj]
theorem Own.frozen {w : World} {g n : Nat} {f : Nat → Int} (h : Own w g n f) (j : Nat) : w.frozen? ⟨g, j, none⟩ = false := by
  obtain ⟨cur, h, _⟩ := h
  exact frozen_of_row w g j _ _ h
theorem Own.set {w : World} {g n : Nat} {f : Nat → Int} (h : Own w g n f) (i : Nat) (v : Int) : Own (w.setCell ⟨g, i, none⟩ (.int .i64 v)) g n (upd f i v) := by
  obtain ⟨cur, h, hc⟩ := h
  refine ⟨_, heap_setCell_same w g i _ _ _ h, fun j hj => ?_⟩
  have hcj := hc j hj
  have hlt : j < cur.size := (Array.getElem?_eq_some_iff.1 hcj).1
  rw [Array.getElem?_setIfInBounds]
  by_cases e : i = j
  · subst e; rw [if_pos rfl, if_pos hlt]; simp [upd]
  · rw [if_neg e, hcj]; simp [upd, Ne.symm e]
theorem Own.other {w : World} {g n : Nat} {f : Nat → Int} (h : Own w g n f) (a : Addr) (v : Value) (hne : g ≠ a.block) : Own (w.setCell a v) g n f := by
  obtain ⟨cur, h, hc⟩ := h
  exact ⟨cur, (heap_setCell_other w a g v hne).trans h, hc⟩
theorem Own.below {w w' : World} {g n : Nat} {f : Nat → Int} (h : Own w g n f) (hb : Below w.heap.size w w') : Own w' g n f := by
  have hl := h.lt
  obtain ⟨cur, h, hc⟩ := h
  exact ⟨cur, (hb.block g hl).trans h, hc⟩
theorem Own.drew {w : World} {g n : Nat} {f : Nat → Int} (h : Own w g n f) : Own w.drew g n f := h
theorem Own.congr {w : World} {g n : Nat} {f f' : Nat → Int} (h : Own w g n f) (e : ∀ j, j < n → f j = f' j) : Own w g n f' := by
  obtain ⟨cur, h, hc⟩ := h
  exact ⟨cur, h, fun j hj => by rw [hc j hj, e j hj]⟩
theorem Own.sl {w : World} {g n : Nat} {f : Nat → Int} (h : Own w g n f) (cap : Nat) : Sl w (.slice (some ⟨g, 0, none⟩) n cap) ((List.range n).map f) := by
  refine ⟨_, cap, by simp, fun j hj => ⟨g, 0, rfl, ?_⟩⟩
  have hj' : j < n := by simpa using hj
  rw [Nat.zero_add, h.cell j hj']
  simp [hj']
theorem Own.of {w : World} {base n : Nat} {v : Value} {l : List Int} (h : w.ownsRow base 3 1 v n (l.map (Value.int .i64))) (hn : 0 < n) :
    ∃ g cap, v = .slice (some ⟨g, 0, none⟩) n cap ∧ base ≤ g ∧ Own w g n (fun j => l.getD j 0) := by
  obtain ⟨hl, ⟨_, hn0⟩ | ⟨g, cap, cur, rfl, hb, hg, _, _, _, ht⟩⟩ := h
  · omega
  · refine ⟨g, cap, rfl, hb, cur, hg, fun j hj => ?_⟩
    have hj2 : j < l.length := by simp at hl; omega
    have h2 : (cur.toList.take (n * 1))[j]? = (l.map (Value.int .i64))[j]? := by rw [ht]
    rw [List.getElem?_take, if_pos (by omega)] at h2
    rw [← Array.getElem?_toList, h2]
    simp [hj2]

theorem Sl.form {w : World} {v : Value} {l : List Int} {n : Nat} (h : Sl w v l) (hl : l.length = n) (hn : 0 < n) :
    ∃ b off cap, v = .slice (some ⟨b, off, none⟩) n cap ∧ b < w.heap.size ∧ ∀ j, j < n → w.cell? ⟨b, off + j, none⟩ = some (.int .i64 (l.getD j 0)) := by
  obtain ⟨a, cap, rfl, h⟩ := h
  rw [hl] at h ⊢
  obtain ⟨b, off, rfl, h0⟩ := h 0 hn
  refine ⟨b, off, cap, rfl, by simpa using block_lt_of_cell h0, fun j hj => ?_⟩
  obtain ⟨b', o', e, hc⟩ := h j hj
  simp only [Option.some.injEq, Addr.mk.injEq, and_true] at e
  obtain ⟨rfl, rfl⟩ := e
  exact hc
theorem bdrewN {B : Nat} {a w : World} (h : Below B a w) (n : Nat) : Below B a (w.drewN n) := ⟨h.os, h.tape, h.output, h.size, h.block⟩
theorem Sl.alloc {w : World} {v : Value} {l : List Int} (h : Sl w v l) (o : Obj) : Sl (w.alloc o) v l := h.below ((Below.refl _ _).alloc (Nat.le_refl _) o)
theorem Sl.drew {w : World} {v : Value} {l : List Int} (h : Sl w v l) : Sl w.drew v l := h
theorem balloc (w : World) (o : Obj) : Below w.heap.size w (w.alloc o) := (Below.refl _ _).alloc (Nat.le_refl _) o

end Go.Proofs.YtgpkhfpejopacabGreatDoor.Gc

namespace Go.Proofs.YtgpkhfpejopacabGreatDoor.Gc
open Go.RowKit

def inLB (bd : Int) (l : List Int) : Bool := l.all fun x => decide (0 ≤ x) && decide (x < bd)
theorem inLB_iff (bd : Int) (l : List Int) : inLB bd l = true ↔ ∀ j, j < l.length → 0 ≤ l.getD j 0 ∧ l.getD j 0 < bd := by
  unfold inLB
  rw [List.all_eq_true]
  constructor
  · intro h j hj
    have := h l[j] (List.getElem_mem hj)
    simpa [hj] using this
  · intro h x hx
    obtain ⟨j, hj, rfl⟩ := List.mem_iff_getElem.1 hx
    have := h j hj
    simpa [hj] using this
theorem inLB_no {bd : Int} {l : List Int} (h : ¬ ∀ j, j < l.length → 0 ≤ l.getD j 0 ∧ l.getD j 0 < bd) : inLB bd l = false := by
  rw [Bool.eq_false_iff]; exact fun e => h ((inLB_iff bd l).1 e)
def dupB (l : List Int) : Bool := (List.range l.length).any fun i => (List.range i).any fun j => l.getD i 0 == l.getD j 0
theorem dupB_iff (l : List Int) : dupB l = true ↔ ∃ i j, j < i ∧ i < l.length ∧ l.getD i 0 = l.getD j 0 := by
  unfold dupB
  simp only [List.any_eq_true, List.mem_range, beq_iff_eq]
  constructor
  · rintro ⟨i, hi, j, hj, e⟩; exact ⟨i, j, hj, hi, e⟩
  · rintro ⟨i, j, hj, hi, e⟩; exact ⟨i, hi, j, hj, e⟩
theorem dupB_no {l : List Int} (h : ∀ i j, j < i → i < l.length → l.getD i 0 ≠ l.getD j 0) : dupB l = false := by
  rw [Bool.eq_false_iff]; intro e
  obtain ⟨i, j, h1, h2, h3⟩ := (dupB_iff l).1 e
  exact h i j h1 h2 h3
/-- What is wrong with a permutation. -/
def pF (l : List Int) : Int := if 12 < l.length then 3 else if inLB l.length l = false then 1 else if dupB l = true then 6 else 0
def pl (n : Nat) (f : Nat → Nat) : List Int := (List.range n).map fun i => (f i : Int)
@[simp] theorem pl_len (n : Nat) (f : Nat → Nat) : (pl n f).length = n := by simp [pl]
theorem pl_at {n : Nat} (f : Nat → Nat) {i : Nat} (h : i < n) : (pl n f).getD i 0 = (f i : Int) := by simp [pl, h]
theorem pl_congr {n : Nat} {f g : Nat → Nat} (h : ∀ i, i < n → f i = g i) : pl n f = pl n g := by
  unfold pl
  exact List.map_congr_left fun i hi => by rw [h i (List.mem_range.1 hi)]
theorem pF_ok {l : List Int} (h : pF l = 0) : ∃ n f, n ≤ 12 ∧ Pm n f ∧ l = pl n f := by
  unfold pF at h
  by_cases h1 : 12 < l.length
  · rw [if_pos h1] at h; omega
  · rw [if_neg h1] at h
    by_cases h2 : inLB l.length l = false
    · rw [if_pos h2] at h; omega
    · rw [if_neg h2] at h
      by_cases h3 : dupB l = true
      · rw [if_pos h3] at h; omega
      · have h2 := (inLB_iff _ _).1 (Bool.not_eq_false _ ▸ h2)
        refine ⟨l.length, fun i => (l.getD i 0).toNat, by omega, ⟨fun i hi => ?_, fun i j hi hj e => ?_⟩, ?_⟩
        · have := h2 i hi; show (l.getD i 0).toNat < _; omega
        · have e : (l.getD i 0).toNat = (l.getD j 0).toNat := e
          have a1 := h2 i hi
          have a2 := h2 j hj
          have e' : l.getD i 0 = l.getD j 0 := by omega
          rcases Nat.lt_trichotomy i j with h4 | h4 | h4
          · exact absurd ((dupB_iff l).2 ⟨j, i, h4, hj, e'.symm⟩) h3
          · exact h4
          · exact absurd ((dupB_iff l).2 ⟨i, j, h4, hi, e'⟩) h3
        · refine List.ext_getElem (by simp) fun i h4 h5 => ?_
          have e1 : l.getD i 0 = l[i] := by simp [h4]
          have := h2 i h4
          simp only [pl, List.getElem_map, List.getElem_range]
          rw [Int.toNat_of_nonneg (by omega), e1]
theorem pF_pl {n : Nat} {f : Nat → Nat} (P : Pm n f) (hn : n ≤ 12) : pF (pl n f) = 0 := by
  unfold pF
  rw [if_neg (by simp; omega)]
  have h1 : inLB (pl n f).length (pl n f) = true := (inLB_iff _ _).2 fun j hj => by
    rw [pl_len] at hj
    rw [pl_at f hj, pl_len]
    have := P.lt j hj
    omega
  rw [h1, if_neg (by simp)]
  rw [dupB_no (fun i j h2 h3 e => ?_)]
  · simp
  · rw [pl_len] at h3
    rw [pl_at f h3, pl_at f (by omega)] at e
    have := P.inj i j h3 (by omega) (by omega)
    omega
/-- A row of 12 truths. -/
def brow (f : Nat → Bool) : Array Value := ((List.range 12).map fun j => Value.bool (f j)).toArray
theorem brow_size (f : Nat → Bool) : (brow f).size = 12 := by simp [brow]
theorem brow_at (f : Nat → Bool) (j : Nat) (h : j < 12) : (brow f)[j]? = some (.bool (f j)) := by simp [brow, h]
def updB (f : Nat → Bool) (i : Nat) : Nat → Bool := fun j => if j = i then true else f j
theorem brow_set (f : Nat → Bool) (i : Nat) : (brow f).setIfInBounds i (.bool true) = brow (updB f i) := by
  apply Array.ext_getElem?
  intro j
  rw [Array.getElem?_setIfInBounds]
  by_cases hj : j < 12
  · rw [brow_at _ _ hj]
    by_cases e : i = j
    · subst e; rw [if_pos rfl, brow_at _ _ hj, if_pos (by simpa [brow_size] using hj)]; simp [updB]
    · rw [if_neg e, brow_at _ _ hj]; simp [updB, Ne.symm e]
  · simp [brow, hj]; omega
def BRow (w : World) (g : Nat) (f : Nat → Bool) : Prop := w.heap[g]? = some (.cells (brow f) 188 (0, 0))
theorem BRow.lt {w : World} {g : Nat} {f : Nat → Bool} (h : BRow w g f) : g < w.heap.size := (Array.getElem?_eq_some_iff.1 h).1
theorem BRow.cell {w : World} {g : Nat} {f : Nat → Bool} (h : BRow w g f) (j : Nat) (hj : j < 12) : w.cell? ⟨g, j, none⟩ = some (.bool (f j)) := by rw [cell_of_row w g j _ _ _ h, brow_at _ _ hj]
theorem BRow.frozen {w : World} {g : Nat} {f : Nat → Bool} (h : BRow w g f) (j : Nat) : w.frozen? ⟨g, j, none⟩ = false := frozen_of_row w g j _ _ h
theorem BRow.set {w : World} {g : Nat} {f : Nat → Bool} (h : BRow w g f) (i : Nat) : BRow (w.setCell ⟨g, i, none⟩ (.bool true)) g (updB f i) := by
  unfold BRow; rw [heap_setCell_same w g i _ _ _ h, brow_set]
theorem BRow.below {w w' : World} {g : Nat} {f : Nat → Bool} (h : BRow w g f) (hb : Below w.heap.size w w') : BRow w' g f := (hb.block g h.lt).trans h
theorem BRow.congr {w : World} {g : Nat} {f f' : Nat → Bool} (h : BRow w g f) (e : ∀ j, j < 12 → f j = f' j) : BRow w g f' := by
  have : brow f = brow f' := by
    unfold brow; congr 1; apply List.map_congr_left; intro j hj; rw [e j (by simpa using hj)]
  unfold BRow; rw [← this]; exact h
theorem BRow.made0 (w : World) : BRow (w.alloc (.cells #[.bool false, .bool false, .bool false, .bool false, .bool false, .bool false, .bool false, .bool false, .bool false, .bool false, .bool false, .bool false] 188)) w.heap.size (fun _ => false) := heap_alloc_new w _

end Go.Proofs.YtgpkhfpejopacabGreatDoor.Gc
