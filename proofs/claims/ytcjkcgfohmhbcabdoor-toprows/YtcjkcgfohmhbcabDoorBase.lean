/- Small facts that the walks share: rows of eleven numbers, the table of primes, what lies below a block. -/
import Derived.Test.YtcjkcgfohmhbcabDoorProg
import Derived.Test.YtcjkcgfohmhbcabDoorPure
import Derived.WalkKit
import Derived.WalkSpells
import Derived.WalkLawsBesides
namespace Go.Proofs.YtcjkcgfohmhbcabDoor.Fd
open Go.RowKit

theorem ret_int {k : IntKind} {a b : Int} (h : a = b) : Ending.returned (.int k a) = .returned (.int k b) := by rw [h]
theorem ret_bool {a b : Bool} (h : a = b) : Ending.returned (.bool a) = .returned (.bool b) := by rw [h]

def primeCells : Array Value := (primeTab.map (Value.int .i64)).toArray
/-- The table of primes lies in block 0. -/
def Tab (w : World) : Prop := ∃ t fr, w.heap[0]? = some (.cells primeCells t fr)
theorem Tab.pos {w : World} (h : Tab w) : 0 < w.heap.size := by
  obtain ⟨t, fr, h⟩ := h
  exact (Array.getElem?_eq_some_iff.1 h).1
theorem Tab.below {w w' : World} (h : Tab w) (hb : Below w.heap.size w w') : Tab w' := by
  have hp := h.pos
  obtain ⟨t, fr, h⟩ := h
  exact ⟨t, fr, (hb.block 0 hp).trans h⟩
theorem Tab.alloc {w : World} (h : Tab w) (o : Obj) : Tab (w.alloc o) := h.below ((Below.refl _ _).alloc (Nat.le_refl _) o)
theorem Tab.drew {w : World} (h : Tab w) : Tab w.drew := h

theorem Below.next {a b c : World} (h : Below a.heap.size a b) (k : Below b.heap.size b c) : Below a.heap.size a c := h.trans (k.mono h.size)
theorem bcell {W w1 : World} (hb : Below W.heap.size W w1) : (∀ b o, b < W.heap.size → w1.cell? ⟨b, o, none⟩ = W.cell? ⟨b, o, none⟩) ∧ (∀ b o, b < W.heap.size → w1.frozen? ⟨b, o, none⟩ = W.frozen? ⟨b, o, none⟩) :=
  ⟨fun b o h => hb.cell (p := ⟨b, o, none⟩) h, fun b o h => hb.frozen (p := ⟨b, o, none⟩) h⟩

/-- A row of eleven numbers. -/
def prow (f : Nat → Int) : Array Value := ((List.range 11).map fun j => Value.int .i64 (f j)).toArray
@[simp] theorem prow_size (f : Nat → Int) : (prow f).size = 11 := by simp [prow]
theorem prow_at (f : Nat → Int) (j : Nat) (h : j < 11) : (prow f)[j]? = some (.int .i64 (f j)) := by simp [prow, h]
theorem prow_set (f : Nat → Int) (i : Nat) (v : Int) : (prow f).setIfInBounds i (.int .i64 v) = prow (upd f i v) := by
  apply Array.ext_getElem?
  intro j
  rw [Array.getElem?_setIfInBounds]
  by_cases hj : j < 11
  · rw [prow_at _ _ hj]
    by_cases e : i = j
    · subst e; rw [if_pos rfl, prow_at _ _ hj, if_pos (by simpa using hj)]; simp [upd]
    · rw [if_neg e, prow_at _ _ hj]; simp [upd, Ne.symm e]
  · simp [prow, hj]; omega
theorem prow_congr {f g : Nat → Int} (h : ∀ j, j < 11 → f j = g j) : prow f = prow g := by
  unfold prow
  congr 1
  apply List.map_congr_left
  intro j hj
  rw [h j (by simpa using hj)]
theorem prow_zero : prow (fun _ => 0) = #[.int .i64 0, .int .i64 0, .int .i64 0, .int .i64 0, .int .i64 0, .int .i64 0, .int .i64 0, .int .i64 0, .int .i64 0, .int .i64 0, .int .i64 0] := by rfl

/-- Block g holds the row f. -/
def Row (w : World) (g : Nat) (f : Nat → Int) : Prop := w.heap[g]? = some (.cells (prow f) 62 (0, 0))
theorem Row.lt {w : World} {g : Nat} {f : Nat → Int} (h : Row w g f) : g < w.heap.size := (Array.getElem?_eq_some_iff.1 h).1
theorem Row.cell {w : World} {g : Nat} {f : Nat → Int} (h : Row w g f) (j : Nat) (hj : j < 11) : w.cell? ⟨g, j, none⟩ = some (.int .i64 (f j)) := by
  rw [cell_of_row w g j _ _ _ h, prow_at _ _ hj]
theorem Row.frozen {w : World} {g : Nat} {f : Nat → Int} (h : Row w g f) (j : Nat) : w.frozen? ⟨g, j, none⟩ = false := frozen_of_row w g j _ _ h
theorem Row.set {w : World} {g : Nat} {f : Nat → Int} (h : Row w g f) (i : Nat) (v : Int) : Row (w.setCell ⟨g, i, none⟩ (.int .i64 v)) g (upd f i v) := by
  unfold Row
  rw [heap_setCell_same w g i _ _ _ h, prow_set]
theorem Row.other {w : World} {g : Nat} {f : Nat → Int} (h : Row w g f) (a : Addr) (v : Value) (hne : g ≠ a.block) : Row (w.setCell a v) g f := by
  unfold Row
  rw [heap_setCell_other w a g v hne]; exact h
theorem Row.below {w w' : World} {g : Nat} {f : Nat → Int} (h : Row w g f) (hb : Below w.heap.size w w') : Row w' g f := (hb.block g h.lt).trans h
theorem Row.congr {w : World} {g : Nat} {f f' : Nat → Int} (h : Row w g f) (e : ∀ j, j < 11 → f j = f' j) : Row w g f' := by
  unfold Row; rw [← prow_congr e]; exact h
theorem Row.made (w : World) (f : Nat → Int) : Row (w.alloc (.cells (prow f) 62)) w.heap.size f := heap_alloc_new w _
theorem Row.whole {w : World} {g : Nat} {f : Nat → Int} (h : Row w g f) (f' : Nat → Int) : Row (w.setRow g (prow f')) g f' := setRow_heap w g _ _ _ _ h
theorem Row.wholeOther {w : World} {g : Nat} {f : Nat → Int} (h : Row w g f) (k : Nat) (cs : Array Value) (hne : g ≠ k) : Row (w.setRow k cs) g f := (setRow_other w k g cs hne).trans h
theorem bsetRow {B g : Nat} {w0 w : World} (hb : Below B w0 w) (hBg : B ≤ g) (cs : Array Value) : Below B w0 (w.setRow g cs) :=
  ⟨hb.os, hb.tape, hb.output, by simpa using hb.size, fun k hk => (setRow_other w g k cs (by omega)).trans (hb.block k hk)⟩
theorem prow_one (f : Nat → Int) : (prow f).all (·.oneCell') = true := by
  rw [Array.all_eq_true]
  intro i hi
  have h := prow_at f i (by simpa using hi)
  rw [Array.getElem?_eq_getElem hi] at h
  rw [Option.some.inj h]; rfl
set_option maxRecDepth 100000 in
theorem und51 : Tryd.prog.underlying 62 = some (.array 11 3) := by kernel_rfl
set_option maxRecDepth 100000 in
theorem inf51 (f : Nat → Int) : (Tryd.prog.info? 62).map (·.size) = some (prow f).size := by rw [prow_size]; kernel_rfl
theorem Row.made0 (w : World) : Row (w.alloc (.cells #[.int .i64 0, .int .i64 0, .int .i64 0, .int .i64 0, .int .i64 0, .int .i64 0, .int .i64 0, .int .i64 0, .int .i64 0, .int .i64 0, .int .i64 0] 62)) w.heap.size (fun _ => 0) := Row.made w (fun _ => 0)
theorem Row.alloc {w : World} {g : Nat} {f : Nat → Int} (h : Row w g f) (o : Obj) : Row (w.alloc o) g f := h.below ((Below.refl _ _).alloc (Nat.le_refl _) o)
theorem Row.drew {w : World} {g : Nat} {f : Nat → Int} (h : Row w g f) : Row w.drew g f := h
set_option maxRecDepth 100000 in
theorem post_row {fn : Func} {R : Ending → World → Prop} {a : Act} {w : World} {g : Nat} {f : Nat → Int} (slot : Tmp) (hres : fn.results = #[.cell slot 62])
    (hp : a.tmps.getD slot undef = .pointer (some ⟨g, 0, none⟩)) (hr : Row w g f) (hd : a.defers = []) (hR : R (.returned (.agg (prow f))) w) : bodyPost Tryd.prog fn R .ret a w :=
  bodyPost_ret (results_cell_row hres a.tmps w g 62 (prow f) (0, 0) _ hp hr und51 rfl (inf51 f)) hd hR
theorem Row.cells {w : World} {g : Nat} {f : Nat → Int} (h : Row w g f) : w.cell? ⟨g, 0, none⟩ = some (.int .i64 (f 0)) ∧ w.cell? ⟨g, 1, none⟩ = some (.int .i64 (f 1)) ∧ w.cell? ⟨g, 2, none⟩ = some (.int .i64 (f 2)) ∧ w.cell? ⟨g, 3, none⟩ = some (.int .i64 (f 3)) ∧ w.cell? ⟨g, 4, none⟩ = some (.int .i64 (f 4)) ∧ w.cell? ⟨g, 5, none⟩ = some (.int .i64 (f 5)) ∧ w.cell? ⟨g, 6, none⟩ = some (.int .i64 (f 6)) ∧ w.cell? ⟨g, 7, none⟩ = some (.int .i64 (f 7)) ∧ w.cell? ⟨g, 8, none⟩ = some (.int .i64 (f 8)) ∧ w.cell? ⟨g, 9, none⟩ = some (.int .i64 (f 9)) ∧ w.cell? ⟨g, 10, none⟩ = some (.int .i64 (f 10)) :=
  ⟨h.cell 0 (by omega), h.cell 1 (by omega), h.cell 2 (by omega), h.cell 3 (by omega), h.cell 4 (by omega), h.cell 5 (by omega), h.cell 6 (by omega), h.cell 7 (by omega), h.cell 8 (by omega), h.cell 9 (by omega), h.cell 10 (by omega)⟩

set_option maxRecDepth 100000 in
theorem und3 : Tryd.prog.underlying 3 = some (.int .i64) := by kernel_rfl
set_option maxRecDepth 100000 in
theorem und22 : Tryd.prog.underlying 23 = some (.slice 3) := by kernel_rfl
set_option maxRecDepth 100000 in
theorem info3 : ∃ i, Tryd.prog.info? 3 = some i ∧ i.zero = some (.int .i64 0) ∧ i.size = 1 ∧ i.bytes = 8 := by
  have h1 : (Tryd.prog.info? 3).map (·.zero) = some (some (.int .i64 0)) := by kernel_rfl
  have h2 : (Tryd.prog.info? 3).map (·.size) = some 1 := by kernel_rfl
  have h3 : (Tryd.prog.info? 3).map (·.bytes) = some 8 := by kernel_rfl
  cases h : Tryd.prog.info? 3 with
  | none => rw [h] at h1; cases h1
  | some i =>
    rw [h] at h1 h2 h3
    exact ⟨i, rfl, Option.some.inj h1, Option.some.inj h2, Option.some.inj h3⟩

/-- The value is a slice that reads as the list of numbers. -/
def Sl (w : World) (v : Value) (l : List Int) : Prop := ∃ (a : Option Addr) (cap : Nat), v = .slice a l.length cap ∧ ∀ j, j < l.length → ∃ b off, a = some ⟨b, off, none⟩ ∧ w.cell? ⟨b, off + j, none⟩ = some (.int .i64 (l.getD j 0))
theorem Sl.below {w w' : World} {v : Value} {l : List Int} (h : Sl w v l) (hb : Below w.heap.size w w') : Sl w' v l := by
  obtain ⟨a, cap, rfl, h⟩ := h
  refine ⟨a, cap, rfl, fun j hj => ?_⟩
  obtain ⟨b, off, e, hc⟩ := h j hj
  exact ⟨b, off, e, (hb.cell (p := ⟨b, off + j, none⟩) (block_lt_of_cell hc)).trans hc⟩
theorem Sl.nil (w : World) : Sl w (.slice none 0 0) [] := ⟨none, 0, rfl, fun j hj => by simp at hj⟩
theorem Sl.owned {w : World} {base : Nat} {v : Value} {l : List Int} (h : w.ownsRow base 3 1 v l.length (l.map (Value.int .i64))) : Sl w v l := by
  obtain ⟨_, ⟨rfl, hn⟩ | ⟨g, cap, cur, rfl, _, hg, _, _, _, ht⟩⟩ := h
  · have : l = [] := List.length_eq_zero_iff.1 hn
    subst this
    exact Sl.nil w
  · refine ⟨_, cap, rfl, fun j hj => ⟨g, 0, rfl, ?_⟩⟩
    rw [cell_of_row w g _ cur 3 (0, 0) hg]
    have h2 : (cur.toList.take (l.length * 1))[j]? = (l.map (Value.int .i64))[j]? := by rw [ht]
    rw [List.getElem?_take, if_pos (by omega)] at h2
    rw [Nat.zero_add, ← Array.getElem?_toList, h2]
    simp [hj]

/-- Block g is a row of the call's own whose first n numbers are f's. -/
def Own (w : World) (g n : Nat) (f : Nat → Int) : Prop := ∃ cur, w.heap[g]? = some (.cells cur 3 (0, 0)) ∧ ∀ j, j < n → cur[j]? = some (.int .i64 (f j))
theorem Own.lt {w : World} {g n : Nat} {f : Nat → Int} (h : Own w g n f) : g < w.heap.size := by
  obtain ⟨cur, h, _⟩ := h
  exact (Array.getElem?_eq_some_iff.1 h).1
theorem Own.cell {w : World} {g n : Nat} {f : Nat → Int} (h : Own w g n f) (j : Nat) (hj : j < n) : w.cell? ⟨g, j, none⟩ = some (.int .i64 (f j)) := by
  obtain ⟨cur, h, hc⟩ := h
  rw [cell_of_row w g j _ _ _ h, hc j hj]
theorem Own.frozen {w : World} {g n : Nat} {f : Nat → Int} (h : Own w g n f) (j : Nat) : w.frozen? ⟨g, j, none⟩ = false := by
  obtain ⟨cur, h, _⟩ := h
  exact frozen_of_row w g j _ _ h
theorem Own.set {w : World} {g n : Nat} {f : Nat → Int} (h : Own w g n f) (i : Nat) (v : Int) : Own (w.setCell ⟨g, i, none⟩ (.int .i64 v)) g n (upd f i v) := by
  obtain ⟨cur, h, hc⟩ := h
  refine ⟨_, heap_setCell_same w g i _ _ _ h, fun j hj => ?_⟩
  have hcj := hc j hj
  have hlt : j < cur.size := (Array.getElem?_eq_some_iff.1 hcj).1
  rw [Array.getElem?_setIfInBounds]
  by_cases e : i = j
  · subst e; rw [if_pos rfl, if_pos hlt]; simp [upd]
  · rw [if_neg e, hcj]; simp [upd, Ne.symm e]
theorem Own.other {w : World} {g n : Nat} {f : Nat → Int} (h : Own w g n f) (a : Addr) (v : Value) (hne : g ≠ a.block) : Own (w.setCell a v) g n f := by
  obtain ⟨cur, h, hc⟩ := h
  exact ⟨cur, (heap_setCell_other w a g v hne).trans h, hc⟩
theorem Own.below {w w' : World} {g n : Nat} {f : Nat → Int} (h : Own w g n f) (hb : Below w.heap.size w w') : Own w' g n f := by
  have hl := h.lt
  obtain ⟨cur, h, hc⟩ := h
  exact ⟨cur, (hb.block g hl).trans h, hc⟩
theorem Own.drew {w : World} {g n : Nat} {f : Nat → Int} (h : Own w g n f) : Own w.drew g n f := h
theorem Own.congr {w : World} {g n : Nat} {f f' : Nat → Int} (h : Own w g n f) (e : ∀ j, j < n → f j = f' j) : Own w g n f' := by
  obtain ⟨cur, h, hc⟩ := h
  exact ⟨cur, h, fun j hj => by rw [hc j hj, e j hj]⟩
theorem Own.sl {w : World} {g n : Nat} {f : Nat → Int} (h : Own w g n f) (cap : Nat) : Sl w (.slice (some ⟨g, 0, none⟩) n cap) ((List.range n).map f) := by
  refine ⟨_, cap, by simp, fun j hj => ⟨g, 0, rfl, ?_⟩⟩
  have hj' : j < n := by simpa using hj
  rw [Nat.zero_add, h.cell j hj']
  simp [hj']
theorem Own.of {w : World} {base n : Nat} {v : Value} {l : List Int} (h : w.ownsRow base 3 1 v n (l.map (Value.int .i64))) (hn : 0 < n) :
    ∃ g cap, v = .slice (some ⟨g, 0, none⟩) n cap ∧ base ≤ g ∧ Own w g n (fun j => l.getD j 0) := by
  obtain ⟨hl, ⟨_, hn0⟩ | ⟨g, cap, cur, rfl, hb, hg, _, _, _, ht⟩⟩ := h
  · omega
  · refine ⟨g, cap, rfl, hb, cur, hg, fun j hj => ?_⟩
    have hj2 : j < l.length := by simp at hl; omega
    have h2 : (cur.toList.take (n * 1))[j]? = (l.map (Value.int .i64))[j]? := by rw [ht]
    rw [List.getElem?_take, if_pos (by omega)] at h2
    rw [← Array.getElem?_toList, h2]
    simp [hj2]

end Go.Proofs.YtcjkcgfohmhbcabDoor.Fd
