/- The walk of the document's marked. -/
import Derived.Test.YtmiinhbffiodmaaDoorRSr
import Derived.Test.YtmiinhbffiodmaaDoorRuG
import Derived.Test.YtmiinhbffiodmaaDoorR4b
namespace Go.Proofs.YtmiinhbffiodmaaDoor
open Go.RowKit Go.Maps

/-- What marked answers. -/
def MkP (r : Option (List Nat)) (w : World) (e : Ending) (w' : World) : Prop := ∃ x, e = .returned (.tuple #[x, .bool r.isSome]) ∧ (∀ out, r = some out → Sl w' x (out.map Int.ofNat)) ∧ Below w.heap.size w w'
theorem fs_none {F : Nat → Option (List Nat)} {m : Nat} (h : ∀ d, d < m → F d = none) : (List.range m).findSome? F = none := by
  rw [List.findSome?_eq_none_iff]
  exact fun d hd => h d (List.mem_range.1 hd)
theorem fs_some {F : Nat → Option (List Nat)} {m d : Nat} {o : List Nat} (hd : d < m) (h : ∀ d', d' < d → F d' = none) (ho : F d = some o) : (List.range m).findSome? F = some o := by
  obtain ⟨k, rfl⟩ : ∃ k, m = d + (k + 1) := ⟨m - d - 1, by omega⟩
  rw [List.range_add, List.findSome?_append, fs_none h, List.range_succ_eq_map]
  simp [ho]
end Go.Proofs.YtmiinhbffiodmaaDoor
