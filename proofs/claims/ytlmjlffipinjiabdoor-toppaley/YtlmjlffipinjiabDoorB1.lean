/- Which of two lists comes first: the walks of the library's Compare and of the document's Ahead. -/
import Derived.Test.YtlmjlffipinjiabDoorTSo
import Derived.Test.YtlmjlffipinjiabDoorDLw
import Derived.Deep.QuietTactic
import Derived.BigQuiet
namespace Go.Proofs.YtlmjlffipinjiabDoor
open Go.RowKit

theorem cmp_drop {s t : List Nat} {i : Nat} (h1 : i < s.length) (h2 : i < t.length) : cmpL (s.drop i) (t.drop i) = if s.getD i 0 < t.getD i 0 then -1 else if t.getD i 0 < s.getD i 0 then 1 else cmpL (s.drop (i + 1)) (t.drop (i + 1)) := by
  rw [List.drop_eq_getElem_cons h1, List.drop_eq_getElem_cons h2]
  simp only [List.getD_eq_getElem?_getD, List.getElem?_eq_getElem h1, List.getElem?_eq_getElem h2, Option.getD_some]
  rfl
theorem sl_at {w : World} {u : Value} {s : List Nat} (h : Sl w u (s.map Int.ofNat)) : ∃ a cap, u = .slice a s.length cap ∧ ∀ i, i < s.length → ∃ b off, a = some ⟨b, off, none⟩ ∧ w.cell? ⟨b, off + i, none⟩ = some (.int .i64 ((s.getD i 0 : Nat) : Int)) := by
  obtain ⟨a, cap, rfl, h⟩ := h
  refine ⟨a, cap, by simp, fun i hi => ?_⟩
  obtain ⟨b, off, e, hc⟩ := h i (by simpa using hi)
  refine ⟨b, off, e, hc.trans ?_⟩
  simp [List.getD_eq_getElem?_getD, List.getElem?_eq_getElem hi]
end Go.Proofs.YtlmjlffipinjiabDoor
