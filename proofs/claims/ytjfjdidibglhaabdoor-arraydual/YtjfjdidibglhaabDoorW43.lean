/- The walks of low and of Fields. -/
import Derived.Test.YtjfjdidibglhaabDoorBaseB
import Derived.Deep.QuietTactic
import Derived.BigQuiet
import Derived.Laws.CopyOwn
/- The walks of Ints and Fields: are two lists, two fields the same? -/
namespace Go.Proofs.YtjfjdidibglhaabDoor.Fd
open Go.RowKit

end Go.Proofs.YtjfjdidibglhaabDoor.Fd

namespace Go.Proofs.YtjfjdidibglhaabDoor.Fd
open Go.RowKit

set_option maxRecDepth 100000 in
set_option maxHeartbeats 400000 in
theorem low_any (f : Nat → Int) (k : Nat) (w : World) (hk : 1 ≤ k) (hk' : k ≤ 11) :
    Calls Tryd.prog 60 #[.agg (prow f), .int .i64 k] w fun e w' => ∃ g cap, e = .returned (.slice (some ⟨g, 0, none⟩) k cap) ∧ w.heap.size ≤ g ∧ Own w' g k f ∧ Below w.heap.size w w' := by
  obtain ⟨i3, hi, hz0, hz1, hz2⟩ := info3
  have hmk : ∀ w : World, (Instr.makeSlice 22 (.int .i64 (k : Int)) (.int .i64 (k : Int))).run Tryd.prog w = .ok (.slice (some ⟨w.heap.size, 0, none⟩) k k) (w.alloc (.cells (madeCells #[.int .i64 0] k) 3)) := fun w => by
    have h := run_make (P := Tryd.prog) w 22 3 i3 (.int .i64 0) und22 hi hz0 .i64 .i64 k k (by omega) (by omega) (by rw [hz2]; omega) (by omega)
    rw [hz1] at h
    simpa [Value.cells] using h
  have hsz : (Tryd.prog.info? 3).map (·.size) = some 1 := by kernel_rfl
  have hrow := (Row.made w f).alloc (.cells (madeCells #[.int .i64 0] k) 3)
  have hnew : ((w.alloc (.cells (prow f) 93)).alloc (.cells (madeCells #[.int .i64 0] k) 3)).heap[w.heap.size + 1]? = some (.cells (madeCells #[.int .i64 0] k) 3 (0, 0)) := heap_alloc2_new w _ _
  clear hi
  go_enter Tryd.func60, Tryd.ntmps60
  go_wp2_with (first
    | (refine wpList_copy_own rfl _ _ 22 22 rfl 3 und22 hsz (w.heap.size + 1) 0 k k ⟨w.heap.size, 0, none⟩ 11 11 rfl rfl (madeCells #[.int .i64 0] k) 3 hnew ((List.range k).map fun j => Value.int .i64 (f j)) ?c1 ?c2 ?c3 ?c4 ?_)
    | go_in)
  case c1 => show _ = min 11 k; simp; omega
  case c2 =>
    intro j v hj
    simp only [List.getElem?_map, Option.map_eq_some_iff] at hj
    obtain ⟨z, hz, rfl⟩ := hj
    have hjk : j < k := by
      have := (List.getElem?_eq_some_iff.1 hz).1
      simpa using this
    have hzj : z = j := by
      have h := (List.getElem?_eq_some_iff.1 hz).2
      simpa using h.symm
    subst hzj
    have hx := hrow.cell z (by omega)
    by_cases e : z = 0
    · subst e; simpa [Addr.add] using hx
    · simpa [Addr.add, e] using hx
  case c3 => simp [size_madeCells]
  case c4 => intro v hv; simp at hv; obtain ⟨z, _, rfl⟩ := hv; rfl
  go_wp2
  go_ret
  refine ⟨w.heap.size + 1, k, rfl, by omega, ⟨_, setRow_heap _ _ _ _ _ _ hnew, fun j hj => ?_⟩, bsetRow (((Below.refl _ _).alloc (Nat.le_refl _) _).alloc (by simp) _) (by omega) _⟩
  simp [hj, List.getElem?_append]

end Go.Proofs.YtjfjdidibglhaabDoor.Fd
