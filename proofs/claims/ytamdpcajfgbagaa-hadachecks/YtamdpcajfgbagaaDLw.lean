/- The walk of the document's LevelOf: the search. -/
import Derived.Test.YtamdpcajfgbagaaDLv
namespace Go.Proofs.Ytamdpcajfgbagaa
open Go.RowKit

/-- The rows of a design in memory. -/
def DRow (w : World) (a : Option Addr) (B : List (List Nat)) : Prop := ∀ (i : Nat) (b : List Nat), B[i]? = some b → ∃ bb off ua uc, a = some ⟨bb, off, none⟩ ∧ ∀ W, Below w.heap.size w W → W.cell? ⟨bb, off + i, none⟩ = some (.slice ua b.length uc) ∧ Sl W (.slice ua b.length uc) (b.map Int.ofNat)
theorem drow_of {w : World} {v : Value} {B : List (List Nat)} (h : Rw w v (toZ B)) : ∃ a cap, v = .slice a B.length cap ∧ DRow w a B := by
  obtain ⟨a, cap, rfl, h⟩ := h
  have hl : (toZ B).length = B.length := by simp [toZ]
  rw [hl]
  refine ⟨a, cap, rfl, fun i b hb => ?_⟩
  obtain ⟨bb, off, u, e, hc, hS⟩ := h i (b.map Int.ofNat) (by unfold toZ; rw [List.getElem?_map, hb]; rfl)
  have hS' := hS
  obtain ⟨ua, uc, rfl, _⟩ := hS
  rw [List.length_map] at hc hS'
  exact ⟨bb, off, ua, uc, e, fun W bW => ⟨(bW.cell (World.block_lt_of_cell? _ _ hc)).trans hc, hS'.below bW⟩⟩
theorem take_count (B : List (List Nat)) (p : List Nat → Bool) {i : Nat} {b : List Nat} (h : B[i]? = some b) : (B.take (i + 1)).countP p = (B.take i).countP p + if p b = true then 1 else 0 := by
  rw [List.take_add_one, h, List.countP_append]
  simp [List.countP_cons]
end Go.Proofs.Ytamdpcajfgbagaa
