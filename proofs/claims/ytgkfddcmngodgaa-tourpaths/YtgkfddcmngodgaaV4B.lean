/- A row of truths of one's own. -/
import Derived.Test.YtgkfddcmngodgaaV1
import Derived.Test.YtgkfddcmngodgaaTrV
namespace Go.Proofs.Ytgkfddcmngodgaa
open Go.RowKit

theorem undB : Try.prog.underlying 47 = some (.slice 4) := by kernel_rfl
theorem info4 : ∃ i, Try.prog.info? 4 = some i ∧ i.zero = some (.bool false) ∧ i.size = 1 ∧ i.bytes = 1 := by
  have h1 : (Try.prog.info? 4).map (·.zero) = some (some (.bool false)) := by kernel_rfl
  have h2 : (Try.prog.info? 4).map (·.size) = some 1 := by kernel_rfl
  have h3 : (Try.prog.info? 4).map (·.bytes) = some 1 := by kernel_rfl
  cases h : Try.prog.info? 4 with
  | none => rw [h] at h1; cases h1
  | some i =>
    rw [h] at h1 h2 h3
    exact ⟨i, rfl, Option.some.inj h1, Option.some.inj h2, Option.some.inj h3⟩
/-- A row of truths of one's own, whole. -/
def OwnB (w : World) (g n : Nat) (f : Nat → Bool) : Prop := ∃ cur, w.heap[g]? = some (.cells cur 4 (0, 0)) ∧ cur.size = n ∧ ∀ j, j < n → cur[j]? = some (.bool (f j))
theorem OwnB.lt {w : World} {g n : Nat} {f : Nat → Bool} (h : OwnB w g n f) : g < w.heap.size := by obtain ⟨c, h, _⟩ := h; exact (Array.getElem?_eq_some_iff.1 h).1
theorem OwnB.keep {w w' : World} {g n : Nat} {f : Nat → Bool} (h : OwnB w g n f) (k : w'.heap[g]? = w.heap[g]?) : OwnB w' g n f := by
  obtain ⟨c, h, e⟩ := h
  exact ⟨c, k.trans h, e⟩
theorem OwnB.below {w w' : World} {g n : Nat} {f : Nat → Bool} (h : OwnB w g n f) (b : Below w.heap.size w w') : OwnB w' g n f := h.keep (b.block g h.lt)
theorem OwnB.cell {w : World} {g n : Nat} {f : Nat → Bool} (h : OwnB w g n f) {j : Nat} (hj : j < n) : w.cell? ⟨g, j, none⟩ = some (.bool (f j)) := by
  obtain ⟨c, h, _, e⟩ := h
  rw [cell_of_row w g j _ _ _ h, e j hj]
theorem OwnB.frozen {w : World} {g n : Nat} {f : Nat → Bool} (h : OwnB w g n f) (j : Nat) : w.frozen? ⟨g, j, none⟩ = false := by
  obtain ⟨c, h, _⟩ := h
  exact frozen_of_row w g j _ _ h
theorem OwnB.set {w : World} {g n : Nat} {f f' : Nat → Bool} (h : OwnB w g n f) (i : Nat) (v : Bool) (e : ∀ j, j < n → (if j = i then v else f j) = f' j) : OwnB (w.setCell ⟨g, i, none⟩ (.bool v)) g n f' := by
  obtain ⟨c, h, hs, hc⟩ := h
  refine ⟨_, heap_setCell_same w g i _ _ _ h, by simpa using hs, fun j hj => ?_⟩
  rw [Array.getElem?_setIfInBounds, ← e j hj]
  by_cases e1 : i = j
  · subst e1; rw [if_pos rfl, if_pos (by omega), if_pos rfl]
  · rw [if_neg e1, if_neg (fun h => e1 h.symm), hc j hj]
theorem own_newB (w : World) (n : Nat) : OwnB (w.alloc (.cells (madeCells #[.bool false] n) 4)) w.heap.size n (fun _ => false) := by
  refine ⟨_, heap_alloc_new w _, by rw [size_madeCells], fun j hj => ?_⟩
  have hs : j < (madeCells #[Value.bool false] n).size := by rw [size_madeCells]; exact hj
  rw [Array.getElem?_eq_getElem hs]
  simp [madeCells, Nat.mod_one]
theorem run_makeB (n : Nat) (hn : n ≤ 100000) (w : World) : (Instr.makeSlice 47 (.int .i64 (n : Int)) (.int .i64 (n : Int))).run Try.prog w = .ok (.slice (some ⟨w.heap.size, 0, none⟩) n n) (w.alloc (.cells (madeCells #[.bool false] n) 4)) := by
  obtain ⟨i4, hi, hz0, hz1, hz2⟩ := info4
  have h := run_make (P := Try.prog) w 47 4 i4 (.bool false) undB hi hz0 .i64 .i64 n n (by omega) (by omega) (by rw [hz2]; omega) (by omega)
  simpa [hz1, Value.cells] using h
theorem OwnB.congr {w : World} {g n : Nat} {f f' : Nat → Bool} (h : OwnB w g n f) (e : ∀ j, j < n → f j = f' j) : OwnB w g n f' := by
  obtain ⟨c, h, hs, hc⟩ := h
  exact ⟨c, h, hs, fun j hj => by rw [hc j hj, e j hj]⟩
theorem OwnB.drew {w : World} {g n : Nat} {f : Nat → Bool} (h : OwnB w g n f) : OwnB w.drew g n f := h
end Go.Proofs.Ytgkfddcmngodgaa
