/- The document's walked, from a list that is not whole on. -/
import Derived.Test.YtgkfddcmngodgabV1
namespace Go.Proofs.Ytgkfddcmngodgab
open Go.RowKit Go.Maps

theorem contains_more (L : List Nat) (b i : Nat) (h : i < L.length) : (L.take (i + 1)).contains b = ((L.take i).contains b || L.getD i 0 == b) := by
  rw [List.getD_eq_getElem?_getD, List.getElem?_eq_getElem h, Option.getD_some, Bool.eq_iff_iff, Bool.or_eq_true, List.contains_iff_mem, List.contains_iff_mem, beq_iff_eq, List.take_add_one, List.getElem?_eq_getElem h, Option.toList_some, List.mem_append, List.mem_singleton]
  exact ⟨fun h => h.elim .inl fun e => .inr e.symm, fun h => h.elim .inl fun e => .inr e.symm⟩
end Go.Proofs.Ytgkfddcmngodgab
