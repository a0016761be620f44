/-
  DERIVED. GIVEN WITH THE SEED: THE CARDS: each row of YtjfjdidibglhaaaDoorRows.lean that lists a variable, with what it lists TIED to the program's text (the seventh form; the later family's looks); each row that meets fmt, with fmt's text TOLD by the authors' own Lean function (tested against real Go, not proved from fmt's source: count such statements apart). THE CARD IS WHAT COUNTS. Prove the row's statement (the work); the ties are given (YtjfjdidibglhaaaDoorTie.lean); close each card by the builder's one call (the guide's Derived/Test/ToyasCard.lean, 'card_holds'). Laid BY PROGRAM, IN A SANDBOX (cutbox-door.mjs). By AI agents, Wed Nov 11 2026. No macro, syntax, notation, axiom, sorry.
-/
import Derived.Test.YtjfjdidibglhaaaDoorRows
import GoSem.ClaimSeven
namespace Go.Proofs.YtjfjdidibglhaaaDoor
namespace Rows

/-- THE TIED CARD OF 'parterrelaw3.ArrayMakes'. -/
def arrayMakesCard : Claim7 := { stood := { row := arrayMakesRow, standIns := [], harness := (true, "8573f7f688ce6852370d3df4c911924300818bfbe88d6f34370ecf440d93818f"), looks := false }, kinds := [], alts := [], laidByText := true, laidKinds := [.data], laidTests := true, laidLooks := .later }
def ArrayMakesCardSaid : Prop := Claim7.holds Tryd.pinned (.plain (OpenSpec.ofChange arrayMakesSpec)) arrayMakesCard

/-- THE SECOND FORM's CARD OF 'parterrelaw3.ArrayMakes'. -/
def arrayMakesUptoCard : Claim7 := { stood := { row := arrayMakesUptoRow, standIns := [], harness := (true, "8573f7f688ce6852370d3df4c911924300818bfbe88d6f34370ecf440d93818f"), looks := false }, kinds := [], alts := [], laidByText := true, laidKinds := [.data], laidTests := true, laidLooks := .later }
def ArrayMakesUptoCardSaid : Prop := Claim7.holds Tryd.pinned (.plain (OpenSpec.upto arrayMakesSpec)) arrayMakesUptoCard
end Rows
end Go.Proofs.YtjfjdidibglhaaaDoor
