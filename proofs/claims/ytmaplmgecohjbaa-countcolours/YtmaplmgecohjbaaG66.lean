/- Cuts: the walks of apart, join, whole. -/
import Derived.Test.YtmaplmgecohjbaaG43
import Derived.Test.YtmaplmgecohjbaaGM
import Derived.Deep.RegionHeld3
namespace Go.Proofs.Ytmaplmgecohjbaa
open Go.RowKit

/-- A cut as a row. -/
def cr (c : Nat → Nat) : Nat → Int := fun j => (c j : Int)

/-- All blocks but g are as they were, and so is what lies below. -/
def Only (g : Nat) (w w' : World) : Prop := Below g w w' ∧ w'.heap.size = w.heap.size ∧ ∀ b, b ≠ g → w'.heap[b]? = w.heap[b]?
theorem Only.refl (g : Nat) (w : World) : Only g w w := ⟨Below.refl _ _, rfl, fun _ _ => rfl⟩
theorem Only.drewN {g : Nat} {w w' : World} (h : Only g w w') (n : Nat) : Only g w (w'.drewN n) := ⟨bdrewN h.1 n, h.2.1, h.2.2⟩
theorem Only.drew {g : Nat} {w w' : World} (h : Only g w w') : Only g w w'.drew := ⟨h.1.drew, h.2.1, h.2.2⟩
theorem Only.set {g : Nat} {w w' : World} (h : Only g w w') (j : Nat) (v : Value) : Only g w (w'.setCell ⟨g, j, none⟩ v) := ⟨h.1.setCell (p := ⟨g, j, none⟩) (Nat.le_refl _) v, by simpa using h.2.1, fun b hb => (heap_setCell_other w' _ b v hb).trans (h.2.2 b hb)⟩
theorem Only.range {g : Nat} {w w' : World} (h : Only g w w') {b o : Nat} {cs : List Value} (hr : w.rangeAt b o cs) (hne : b ≠ g) : w'.rangeAt b o cs := fun j v hv => (World.cell?_of_block (w := w) (a := ⟨b, o + j, none⟩) (h.2.2 b hne)).trans (hr j v hv)
theorem Only.mrow {g T : Nat} {w w' : World} (h : Only g w w') {b : Nat} {f : Nat → Int} (hr : MRow T w b f) (hne : b ≠ g) : MRow T w' b f := (h.2.2 b hne).trans hr
theorem Only.below {g B : Nat} {w w' : World} (h : Only g w w') (hB : B ≤ g) : Below B w w' := h.1.mono hB

end Go.Proofs.Ytmaplmgecohjbaa
