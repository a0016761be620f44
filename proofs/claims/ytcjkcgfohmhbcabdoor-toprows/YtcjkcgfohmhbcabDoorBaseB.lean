/- A field in a block of memory. -/
import Derived.Test.YtcjkcgfohmhbcabDoorBase
import Derived.Test.YtcjkcgfohmhbcabDoorPureC
namespace Go.Proofs.YtcjkcgfohmhbcabDoor.Fd
open Go.RowKit

/-- Block g holds the field of these numbers and this slice. -/
def FB (w : World) (g : Nat) (p k : Int) (v : Value) : Prop := w.heap[g]? = some (.cells #[.int .i64 p, .int .i64 k, v] 36 (0, 0))
theorem FB.lt {w : World} {g : Nat} {p k : Int} {v : Value} (h : FB w g p k v) : g < w.heap.size := (Array.getElem?_eq_some_iff.1 h).1
theorem FB.cells {w : World} {g : Nat} {p k : Int} {v : Value} (h : FB w g p k v) : w.cell? ⟨g, 0, none⟩ = some (.int .i64 p) ∧ w.cell? ⟨g, 1, none⟩ = some (.int .i64 k) ∧ w.cell? ⟨g, 2, none⟩ = some v :=
  ⟨(cell_of_row w g 0 _ _ _ h), (cell_of_row w g 1 _ _ _ h), (cell_of_row w g 2 _ _ _ h)⟩
theorem FB.frozen {w : World} {g : Nat} {p k : Int} {v : Value} (h : FB w g p k v) (j : Nat) : w.frozen? ⟨g, j, none⟩ = false := frozen_of_row w g j _ _ h
theorem FB.below {w w' : World} {g : Nat} {p k : Int} {v : Value} (h : FB w g p k v) (hb : Below w.heap.size w w') : FB w' g p k v := (hb.block g h.lt).trans h
theorem FB.drew {w : World} {g : Nat} {p k : Int} {v : Value} (h : FB w g p k v) : FB w.drew g p k v := h
theorem FB.made (w : World) (p k : Int) (v : Value) : FB (w.alloc (.cells #[.int .i64 p, .int .i64 k, v] 36)) w.heap.size p k v := heap_alloc_new w _
theorem Sl.form {w : World} {v : Value} {l : List Int} {n : Nat} (h : Sl w v l) (hl : l.length = n) (hn : 0 < n) :
    ∃ b off cap, v = .slice (some ⟨b, off, none⟩) n cap ∧ b < w.heap.size ∧ ∀ j, j < n → w.cell? ⟨b, off + j, none⟩ = some (.int .i64 (l.getD j 0)) := by
  obtain ⟨a, cap, rfl, h⟩ := h
  rw [hl] at h ⊢
  obtain ⟨b, off, rfl, h0⟩ := h 0 hn
  refine ⟨b, off, cap, rfl, by simpa using block_lt_of_cell h0, fun j hj => ?_⟩
  obtain ⟨b', o', e, hc⟩ := h j hj
  simp only [Option.some.injEq, Addr.mk.injEq, and_true] at e
  obtain ⟨rfl, rfl⟩ := e
  exact hc
theorem bdrewN {B : Nat} {a w : World} (h : Below B a w) (n : Nat) : Below B a (w.drewN n) := ⟨h.os, h.tape, h.output, h.size, h.block⟩
theorem Own.rowOther {w : World} {g n : Nat} {f : Nat → Int} (h : Own w g n f) (k : Nat) (cs : Array Value) (hne : g ≠ k) : Own (w.setRow k cs) g n f := by
  obtain ⟨cur, h, hc⟩ := h
  exact ⟨cur, (setRow_other w k g cs hne).trans h, hc⟩
theorem FB.whole {w : World} {g : Nat} {p k : Int} {v : Value} (h : FB w g p k v) (p' k' : Int) (v' : Value) : FB (w.setRow g #[.int .i64 p', .int .i64 k', v']) g p' k' v' := setRow_heap w g _ _ _ _ h
set_option maxRecDepth 100000 in
theorem inf24 : (Tryd.prog.info? 36).map (·.size) = some 3 := by kernel_rfl
end Go.Proofs.YtcjkcgfohmhbcabDoor.Fd
