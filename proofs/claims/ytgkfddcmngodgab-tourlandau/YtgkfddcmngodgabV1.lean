/- The document's walked, walked. -/
import Derived.Test.YtgkfddcmngodgabRSr
import Derived.Test.YtgkfddcmngodgabTrX
import Derived.Test.YtgkfddcmngodgabU6b
namespace Go.Proofs.Ytgkfddcmngodgab
open Go.RowKit Go.Maps

theorem nat_atT (s : List Nat) (a : Nat) : (s.map Int.ofNat).getD a 0 = ((s.getD a 0 : Nat) : Int) := by
  rw [List.getD_eq_getElem?_getD, List.getD_eq_getElem?_getD, List.getElem?_map]
  cases s[a]? <;> rfl
/-- A list's cells, where it has any. -/
theorem li_cells {w : World} {v : Value} {L : List Nat} (h : Sl w v (L.map Int.ofNat)) (h0 : 0 < L.length) : ∃ b o c, v = .slice (some ⟨b, o, none⟩) L.length c ∧ ∀ W, Below w.heap.size w W → ∀ j, j < L.length → W.cell? ⟨b, o + j, none⟩ = some (.int .i64 ((L.getD j 0 : Nat) : Int)) := by
  obtain ⟨b, o, c, e, _, hk⟩ := h.form (n := L.length) (by rw [List.length_map]) h0
  exact ⟨b, o, c, e, fun W bW j hj => by
    have hc := hk j hj
    rw [nat_atT] at hc
    exact (bW.cell (World.block_lt_of_cell? _ _ hc)).trans hc⟩
end Go.Proofs.Ytgkfddcmngodgab
