/- Rows of rows that are read. -/
import Derived.Test.YtmogmkdcplgfjabPBase
import Derived.Deep.QuietTactic
import Derived.BigQuiet
import Derived.Deep.RegionHeld3
import Derived.Deep.MidRow
import Derived.OwnWalk
namespace Go.Proofs.Ytmogmkdcplgfjab
open Go.RowKit

def toZ (ls : List (List Nat)) : List (List Int) := ls.map fun l => l.map Int.ofNat
/-- Rows of rows that are read. -/
def Rw (w : World) (v : Value) (ls : List (List Int)) : Prop := ∃ a cap, v = .slice a ls.length cap ∧ ls.length ≤ cap ∧ ∀ i l, ls[i]? = some l → ∃ b off u, a = some ⟨b, off, none⟩ ∧ w.cell? ⟨b, off + i, none⟩ = some u ∧ Sl w u l
theorem Rw.below {w w' : World} {v : Value} {ls : List (List Int)} (h : Rw w v ls) (hb : Below w.heap.size w w') : Rw w' v ls := by
  obtain ⟨a, cap, rfl, hc0, h⟩ := h
  refine ⟨a, cap, rfl, hc0, fun i l hl => ?_⟩
  obtain ⟨b, off, u, e, hc, hS⟩ := h i l hl
  exact ⟨b, off, u, e, (hb.cell (World.block_lt_of_cell? _ _ hc)).trans hc, hS.below hb⟩
end Go.Proofs.Ytmogmkdcplgfjab
