/- A table of numbers in memory: made, stored into. -/
import Derived.Test.YtdeofjmgjhfkcaaTTh
import Derived.Test.YtdeofjmgjhfkcaaA8
namespace Go.Proofs.Ytdeofjmgjhfkcaa
open Go.RowKit

theorem run_mkI (n : Nat) (hn : n ≤ 10000) (w : World) : (Instr.makeSlice 45 (.int .i64 (n : Int)) (.int .i64 (n : Int))).run Try.prog w = .ok (.slice (some ⟨w.heap.size, 0, none⟩) n n) (w.alloc (.cells (madeCells #[.int .i64 0] n) 3)) := by
  obtain ⟨i3, hi, hz0, hz1, hz2⟩ := info3
  have h := run_make (P := Try.prog) w 45 3 i3 (.int .i64 0) und22 hi hz0 .i64 .i64 n n (by omega) (by omega) (by rw [hz2]; omega) (by omega)
  simpa [hz1, Value.cells] using h
theorem run_mkR (n : Nat) (hn : n ≤ 10000) (w : World) : (Instr.makeSlice 22 (.int .i64 (n : Int)) (.int .i64 (n : Int))).run Try.prog w = .ok (.slice (some ⟨w.heap.size, 0, none⟩) n n) (w.alloc (.cells (madeCells #[.slice none 0 0] n) 45)) := by
  obtain ⟨i3, hi, hz0, hz1, hz2⟩ := info36
  have h := run_make (P := Try.prog) w 22 45 i3 (.slice none 0 0) undR hi hz0 .i64 .i64 n n (by omega) (by omega) (by rw [hz2]; omega) (by omega)
  simpa [hz1, Value.cells] using h
theorem own_mk (w : World) (n : Nat) : Own (w.alloc (.cells (madeCells #[.int .i64 0] n) 3)) w.heap.size n (fun _ => ((0 : Nat) : Int)) := by
  refine ⟨_, heap_alloc_new w _, fun j hj => ?_⟩
  rw [Array.getElem?_eq_getElem (by rw [size_madeCells]; exact hj)]
  simp [madeCells, Nat.mod_one]
/-- k rows of a table of v rows are made. -/
structure Tb (w : World) (g v k : Nat) (h : Nat → Nat) (f : Nat → Nat → Nat) : Prop where
  o : ∃ cur, w.heap[g]? = some (.cells cur 45 (0, 0)) ∧ cur.size = v ∧ ∀ x, x < k → cur[x]? = some (.slice (some ⟨h x, 0, none⟩) v v)
  r : ∀ x, x < k → Own w (h x) v (fun y => (f x y : Int))
  inj : ∀ x y, x < k → y < k → h x = h y → x = y
theorem Tb.start (w : World) (v : Nat) : Tb (w.alloc (.cells (madeCells #[.slice none 0 0] v) 45)) w.heap.size v 0 (fun _ => 0) (fun _ _ => 0) :=
  ⟨⟨_, heap_alloc_new w _, size_madeCells _ _, fun x hx => by omega⟩, fun x hx => by omega, fun x y hx => by omega⟩
theorem Tb.glt {w : World} {g v k : Nat} {h : Nat → Nat} {f : Nat → Nat → Nat} (t : Tb w g v k h f) : g < w.heap.size := by
  obtain ⟨cur, h1, _⟩ := t.o
  exact (Array.getElem?_eq_some_iff.1 h1).1
theorem Tb.ne {w : World} {g v k : Nat} {h : Nat → Nat} {f : Nat → Nat → Nat} (t : Tb w g v k h f) {x : Nat} (hx : x < k) : h x ≠ g := fun e => by
  obtain ⟨cur, h1, _⟩ := t.o
  obtain ⟨c, h2, _⟩ := t.r x hx
  rw [e, h1] at h2
  simp at h2
theorem Tb.below {w w' : World} {g v k : Nat} {h : Nat → Nat} {f : Nat → Nat → Nat} (t : Tb w g v k h f) (b : Below w.heap.size w w') : Tb w' g v k h f := by
  obtain ⟨cur, h1, h2, h3⟩ := t.o
  exact ⟨⟨cur, (b.block g t.glt).trans h1, h2, h3⟩, fun x hx => (t.r x hx).below b, t.inj⟩
theorem Tb.row {w : World} {g v k : Nat} {h : Nat → Nat} {f : Nat → Nat → Nat} (t : Tb w g v k h f) {x : Nat} (hx : x < k) : w.cell? ⟨g, x, none⟩ = some (.slice (some ⟨h x, 0, none⟩) v v) := by
  obtain ⟨cur, h1, _, h3⟩ := t.o
  rw [cell_of_row _ _ _ _ _ _ h1]
  exact h3 x hx
theorem Tb.cell {w : World} {g v k : Nat} {h : Nat → Nat} {f : Nat → Nat → Nat} (t : Tb w g v k h f) {x y : Nat} (hx : x < k) (hy : y < v) : w.cell? ⟨h x, y, none⟩ = some (.int .i64 (f x y : Int)) := (t.r x hx).cell y hy
theorem Tb.gfrozen {w : World} {g v k : Nat} {h : Nat → Nat} {f : Nat → Nat → Nat} (t : Tb w g v k h f) (j : Nat) : w.frozen? ⟨g, j, none⟩ = false := by
  obtain ⟨cur, h1, _⟩ := t.o
  exact frozen_of_row w g j _ _ h1
theorem Tb.gcell {w : World} {g v k : Nat} {h : Nat → Nat} {f : Nat → Nat → Nat} (t : Tb w g v k h f) {j : Nat} (hj : j < v) : ∃ u, w.cell? ⟨g, j, none⟩ = some u := by
  obtain ⟨cur, h1, h2, _⟩ := t.o
  exact ⟨_, by rw [cell_of_row _ _ _ _ _ _ h1]; exact Array.getElem?_eq_getElem (by omega)⟩
/-- One row more. -/
theorem Tb.more {w : World} {g v k : Nat} {h : Nat → Nat} (t : Tb w g v k h (fun _ _ => 0)) (hk : k < v) :
    Tb ((w.alloc (.cells (madeCells #[.int .i64 0] v) 3)).setCell ⟨g, k, none⟩ (.slice (some ⟨w.heap.size, 0, none⟩) v v)) g v (k + 1) (fun x => if x = k then w.heap.size else h x) (fun _ _ => 0) := by
  have b := balloc w (.cells (madeCells #[.int .i64 0] v) 3)
  have t' := t.below b
  obtain ⟨cur, h1, h2, h3⟩ := t'.o
  have hg := t.glt
  refine ⟨⟨_, heap_setCell_same _ g k _ _ _ h1, by simpa using h2, fun x hx => ?_⟩, fun x hx => ?_, fun x y hx hy => ?_⟩
  · rw [Array.getElem?_setIfInBounds]
    by_cases e : k = x
    · subst e; rw [if_pos rfl, if_pos (by omega)]; simp
    · rw [if_neg e, h3 x (by omega)]
      have : ¬ x = k := fun e' => e e'.symm
      simp [this]
  · by_cases e : x = k
    · subst e
      simp only [if_true]
      exact (own_mk w v).other _ _ (by show w.heap.size ≠ g; omega)
    · simp only [e, if_false]
      exact (t'.r x (by omega)).other _ _ (t.ne (by omega))
  · have low : ∀ z, z < k → h z < w.heap.size := fun z hz => (t.r z hz).lt
    by_cases e1 : x = k <;> by_cases e2 : y = k
    · intro _; omega
    · simp only [e1, e2, if_true, if_false]
      intro e
      have := low y (by omega)
      omega
    · simp only [e1, e2, if_true, if_false]
      intro e
      have := low x (by omega)
      omega
    · simp only [e1, e2, if_false]
      exact t.inj x y (by omega) (by omega)
/-- One number is stored. -/
theorem Tb.set {w : World} {g v k : Nat} {h : Nat → Nat} {f : Nat → Nat → Nat} (t : Tb w g v k h f) {x : Nat} (hx : x < k) (y z : Nat) : Tb (w.setCell ⟨h x, y, none⟩ (.int .i64 (z : Int))) g v k h (fun p q => if p = x ∧ q = y then z else f p q) := by
  obtain ⟨cur, h1, h2, h3⟩ := t.o
  refine ⟨⟨cur, (heap_setCell_other w ⟨h x, y, none⟩ g _ (fun e => t.ne hx e.symm)).trans h1, h2, h3⟩, fun p hp => ?_, t.inj⟩
  by_cases e : p = x
  · subst e
    refine ((t.r p hp).set y (z : Int)).congr fun q hq => ?_
    unfold upd
    by_cases e2 : q = y
    · simp [e2]
    · simp [e2]
  · refine ((t.r p hp).other ⟨h x, y, none⟩ _ fun e' => e (t.inj p x hp hx e')).congr fun q hq => ?_
    simp [e]
theorem Tb.congr {w : World} {g v k : Nat} {h : Nat → Nat} {f f' : Nat → Nat → Nat} (t : Tb w g v k h f) (e : ∀ x y, f x y = f' x y) : Tb w g v k h f' := by
  have : f = f' := funext fun x => funext fun y => e x y
  rw [← this]; exact t
theorem Tb.set2 {w : World} {g v k : Nat} {h : Nat → Nat} {f : Nat → Nat → Nat} (t : Tb w g v k h f) {x y : Nat} (hx : x < k) (hy : y < k) (z : Nat) : Tb ((w.setCell ⟨h x, y, none⟩ (.int .i64 (z : Int))).setCell ⟨h y, x, none⟩ (.int .i64 (z : Int))) g v k h (st2 f x y z) := by
  refine ((t.set hx y z).set hy x z).congr fun p q => ?_
  unfold st2
  by_cases c1 : p = y ∧ q = x
  · rw [if_pos c1, if_pos (.inr c1)]
  · rw [if_neg c1]
    by_cases c2 : p = x ∧ q = y
    · rw [if_pos c2, if_pos (.inl c2)]
    · rw [if_neg c2, if_neg fun h => h.elim c2 c1]

end Go.Proofs.Ytdeofjmgjhfkcaa
