/- Rows of 7 numbers (moves and cuts), and slices of slices that are read. -/
import Derived.Test.YtmaplmgecohjbaaPCyc
import Derived.Test.YtmaplmgecohjbaaGPrim
import Derived.Deep.QuietTactic
import Derived.BigQuiet
namespace Go.Proofs.Ytmaplmgecohjbaa
open Go.RowKit

/-- A row of 7 numbers. -/
def mrow (f : Nat → Int) : Array Value := ((List.range 7).map fun j => Value.int .i64 (f j)).toArray
@[simp] theorem mrow_size (f : Nat → Int) : (mrow f).size = 7 := by simp [mrow]
theorem mrow_at (f : Nat → Int) (j : Nat) (h : j < 7) : (mrow f)[j]? = some (.int .i64 (f j)) := by simp [mrow, h]
theorem mrow_set (f : Nat → Int) (i : Nat) (v : Int) : (mrow f).setIfInBounds i (.int .i64 v) = mrow (upd f i v) := by
  apply Array.ext_getElem?
  intro j
  rw [Array.getElem?_setIfInBounds]
  by_cases hj : j < 7
  · rw [mrow_at _ _ hj]
    by_cases e : i = j
    · subst e; rw [if_pos rfl, mrow_at _ _ hj, if_pos (by simpa using hj)]; simp [upd]
    · rw [if_neg e, mrow_at _ _ hj]; simp [upd, Ne.symm e]
  · simp [mrow, hj]; omega
theorem mrow_congr {f g : Nat → Int} (h : ∀ j, j < 7 → f j = g j) : mrow f = mrow g := by
  unfold mrow
  congr 1
  apply List.map_congr_left
  intro j hj
  rw [h j (by simpa using hj)]
theorem mrow_inj {f g : Nat → Int} (h : mrow f = mrow g) {j : Nat} (hj : j < 7) : f j = g j := by
  have h1 := mrow_at f j hj
  rw [h, mrow_at g j hj] at h1
  simpa using h1.symm
/-- Block g holds the row f, laid as type T. -/
def MRow (T : Nat) (w : World) (g : Nat) (f : Nat → Int) : Prop := w.heap[g]? = some (.cells (mrow f) T (0, 0))
theorem MRow.lt {T : Nat} {w : World} {g : Nat} {f : Nat → Int} (h : MRow T w g f) : g < w.heap.size := (Array.getElem?_eq_some_iff.1 h).1
theorem MRow.cell {T : Nat} {w : World} {g : Nat} {f : Nat → Int} (h : MRow T w g f) (j : Nat) (hj : j < 7) : w.cell? ⟨g, j, none⟩ = some (.int .i64 (f j)) := by
  rw [cell_of_row w g j _ _ _ h, mrow_at _ _ hj]
theorem MRow.frozen {T : Nat} {w : World} {g : Nat} {f : Nat → Int} (h : MRow T w g f) (j : Nat) : w.frozen? ⟨g, j, none⟩ = false := frozen_of_row w g j _ _ h
theorem MRow.set {T : Nat} {w : World} {g : Nat} {f : Nat → Int} (h : MRow T w g f) (i : Nat) (v : Int) : MRow T (w.setCell ⟨g, i, none⟩ (.int .i64 v)) g (upd f i v) := by
  unfold MRow
  rw [heap_setCell_same w g i _ _ _ h, mrow_set]
theorem MRow.other {T : Nat} {w : World} {g : Nat} {f : Nat → Int} (h : MRow T w g f) (a : Addr) (v : Value) (hne : g ≠ a.block) : MRow T (w.setCell a v) g f := by
  unfold MRow
  rw [heap_setCell_other w a g v hne]; exact h
theorem MRow.below {T : Nat} {w w' : World} {g : Nat} {f : Nat → Int} (h : MRow T w g f) (hb : Below w.heap.size w w') : MRow T w' g f := (hb.block g h.lt).trans h
theorem MRow.congr {T : Nat} {w : World} {g : Nat} {f f' : Nat → Int} (h : MRow T w g f) (e : ∀ j, j < 7 → f j = f' j) : MRow T w g f' := by
  unfold MRow; rw [← mrow_congr e]; exact h
theorem MRow.whole {T : Nat} {w : World} {g : Nat} {f : Nat → Int} (h : MRow T w g f) (f' : Nat → Int) : MRow T (w.setRow g (mrow f')) g f' := setRow_heap w g _ _ _ _ h
theorem MRow.wother {T : Nat} {w : World} {g g' : Nat} {f : Nat → Int} (h : MRow T w g f) (hne : g ≠ g') (cs : Array Value) : MRow T (w.setRow g' cs) g f := (setRow_other w g' g cs hne).trans h
theorem MRow.made (T : Nat) (w : World) (f : Nat → Int) : MRow T (w.alloc (.cells (mrow f) T)) w.heap.size f := heap_alloc_new w _
theorem MRow.alloc {T : Nat} {w : World} {g : Nat} {f : Nat → Int} (h : MRow T w g f) (o : Obj) : MRow T (w.alloc o) g f := h.below (balloc _ _)
theorem bsetRow {B g : Nat} {w0 w : World} (hb : Below B w0 w) (hBg : B ≤ g) (cs : Array Value) : Below B w0 (w.setRow g cs) :=
  ⟨hb.os, hb.tape, hb.output, by simpa using hb.size, fun k hk => (setRow_other w g k cs (by omega)).trans (hb.block k hk)⟩
theorem mrow_one (f : Nat → Int) : (mrow f).all (·.oneCell') = true := by
  rw [Array.all_eq_true]
  intro i hi
  have h := mrow_at f i (by simpa using hi)
  rw [Array.getElem?_eq_getElem hi] at h
  rw [Option.some.inj h]; rfl
/-- The row of noughts, as it is laid at first. -/
theorem mrow_zero : (#[.int .i64 0, .int .i64 0, .int .i64 0, .int .i64 0, .int .i64 0, .int .i64 0, .int .i64 0] : Array Value) = mrow fun _ => 0 := rfl
theorem MRow.made0 (T : Nat) (w : World) : MRow T (w.alloc (.cells #[.int .i64 0, .int .i64 0, .int .i64 0, .int .i64 0, .int .i64 0, .int .i64 0, .int .i64 0] T)) w.heap.size (fun _ => 0) := by rw [mrow_zero]; exact MRow.made T w _
theorem und62 : Try.prog.underlying 90 = some (.array 7 3) := by kernel_rfl
theorem inf62 (f : Nat → Int) : (Try.prog.info? 90).map (·.size) = some (mrow f).size := by rw [mrow_size]; kernel_rfl
theorem post_mrow {T : Nat} (ht : Try.prog.underlying T = some (.array 7 3)) (hi : ∀ f : Nat → Int, (Try.prog.info? T).map (·.size) = some (mrow f).size) {fn : Func} {R : Ending → World → Prop} {a : Act} {w : World} {g : Nat} {f : Nat → Int} (slot : Tmp) (hres : fn.results = #[.cell slot T])
    (hp : a.tmps.getD slot undef = .pointer (some ⟨g, 0, none⟩)) (hr : MRow T w g f) (hd : a.defers = []) (hR : R (.returned (.agg (mrow f))) w) : bodyPost Try.prog fn R .ret a w :=
  bodyPost_ret (results_cell_row hres a.tmps w g T (mrow f) (0, 0) _ hp hr ht rfl (hi f)) hd hR
theorem idx62 (f : Nat → Int) (k : Nat) (h : k < 7) (w : World) : (Instr.index 90 (.agg (mrow f)) (.int .i64 (k : Int))).run Try.prog w = .ok (.int .i64 (f k)) w := by
  have : k = 0 ∨ k = 1 ∨ k = 2 ∨ k = 3 ∨ k = 4 ∨ k = 5 ∨ k = 6 := by omega
  rcases this with rfl | rfl | rfl | rfl | rfl | rfl | rfl <;> (change _ = _; kernel_rfl)

/-- A permutation of 7 points as a value. -/
def mv (x : List Nat) : Value := .agg (mrow fun j => (x.getD j 0 : Int))
theorem mv_inj {x y : List Nat} (hx : x.length = 7) (hy : y.length = 7) (h : mv x = mv y) : x = y := by
  unfold mv at h
  simp only [Value.agg.injEq] at h
  exact isP_ext hx hy fun i hi => Int.ofNat.inj (mrow_inj h hi)

/-- A slice that reads as rows of any numbers. -/
def Sls (w : World) (v : Value) (ls : List (List Int)) : Prop :=
  ∃ a cap, v = .slice a ls.length cap ∧ ∀ (i : Nat) (l : List Int), ls[i]? = some l → ∃ b off u, a = some ⟨b, off, none⟩ ∧ w.cell? ⟨b, off + i, none⟩ = some u ∧ Sl w u l
theorem Sls.below {w w' : World} {v : Value} {ls : List (List Int)} (h : Sls w v ls) (hb : Below w.heap.size w w') : Sls w' v ls := by
  obtain ⟨a, cap, rfl, h⟩ := h
  refine ⟨a, cap, rfl, fun i l hl => ?_⟩
  obtain ⟨b, off, u, e, hc, hs⟩ := h i l hl
  exact ⟨b, off, u, e, (hb.cell (p := ⟨b, off + i, none⟩) (block_lt_of_cell hc)).trans hc, hs.below hb⟩
theorem SlSl.sls {w : World} {v : Value} {ls : List (List Nat)} (h : SlSl w v ls) : Sls w v (ls.map fun l => l.map Int.ofNat) := by
  obtain ⟨a, cap, rfl, h⟩ := h
  refine ⟨a, cap, by rw [List.length_map], fun i l hl => ?_⟩
  rw [List.getElem?_map] at hl
  cases he : ls[i]? with
  | none => rw [he] at hl; cases hl
  | some l' =>
    rw [he] at hl
    obtain rfl : l'.map Int.ofNat = l := by simpa using hl
    exact h i l' he
theorem Sls.slsl {w : World} {v : Value} {ls : List (List Nat)} (h : Sls w v (ls.map fun l => l.map Int.ofNat)) : SlSl w v ls := by
  obtain ⟨a, cap, rfl, h⟩ := h
  refine ⟨a, cap, by rw [List.length_map], fun i l hl => h i _ (by rw [List.getElem?_map, hl]; rfl)⟩
theorem Sls.at {w : World} {a : Option Addr} {n c : Nat} {ls : List (List Int)} (h : Sls w (.slice a n c) ls) {i : Nat} {l : List Int} (hl : ls[i]? = some l) : ∃ b off u, a = some ⟨b, off, none⟩ ∧ b < w.heap.size ∧ w.cell? ⟨b, off + i, none⟩ = some u ∧ Sl w u l := by
  obtain ⟨a', cap, e, h'⟩ := h
  cases e
  obtain ⟨b, off, u, h1, h2, h3⟩ := h' i l hl
  exact ⟨b, off, u, h1, by simpa using block_lt_of_cell h2, h2, h3⟩
theorem SlSl.at {w : World} {a : Option Addr} {n c : Nat} {ls : List (List Nat)} (h : SlSl w (.slice a n c) ls) {i : Nat} {l : List Nat} (hl : ls[i]? = some l) : ∃ b off u, a = some ⟨b, off, none⟩ ∧ b < w.heap.size ∧ w.cell? ⟨b, off + i, none⟩ = some u ∧ Sl w u (l.map Int.ofNat) := by
  obtain ⟨a', cap, e, h'⟩ := h
  cases e
  obtain ⟨b, off, u, h1, h2, h3⟩ := h' i l hl
  exact ⟨b, off, u, h1, by simpa using block_lt_of_cell h2, h2, h3⟩
theorem pl_map {n : Nat} {l : List Nat} (h : l.length = n) : pl n (fun i => l.getD i 0) = l.map Int.ofNat := by
  unfold pl
  refine List.ext_getElem (by simp [h]) fun j h1 h2 => ?_
  have hj : j < l.length := by simpa using h2
  simp [hj]

end Go.Proofs.Ytmaplmgecohjbaa
