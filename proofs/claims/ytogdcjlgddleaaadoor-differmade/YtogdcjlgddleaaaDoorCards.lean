/-
  DERIVED. GIVEN WITH THE SEED: THE CARDS: each row of YtogdcjlgddleaaaDoorRows.lean that lists a variable, with what it lists TIED to the program's text (the seventh form; the later family's looks); each row that meets fmt, with fmt's text TOLD by the authors' own Lean function (tested against real Go, not proved from fmt's source: count such statements apart). THE CARD IS WHAT COUNTS. Prove the row's statement (the work); the ties are given (YtogdcjlgddleaaaDoorTie.lean); close each card by the builder's one call (the guide's Derived/Test/ToyasCard.lean, 'card_holds'). Laid BY PROGRAM, IN A SANDBOX (cutbox-door.mjs). By AI agents, Wed Nov 11 2026. No macro, syntax, notation, axiom, sorry.
-/
import Derived.Test.YtogdcjlgddleaaaDoorRows
import GoSem.ClaimSeven
namespace Go.Proofs.YtogdcjlgddleaaaDoor
namespace Rows

/-- THE TIED CARD OF 'parterrelaw2.DifferMakes'. -/
def differMakesCard : Claim7 := { stood := { row := differMakesRow, standIns := [], harness := (true, "5059a59f5fabef826f5110f1291cc5202e29860b95fee31380543ea33e40c298"), looks := false }, kinds := [], alts := [], laidByText := true, laidKinds := [.data], laidTests := true, laidLooks := .later }
def DifferMakesCardSaid : Prop := Claim7.holds Tryd.pinned (.plain (OpenSpec.ofChange differMakesSpec)) differMakesCard

/-- THE TIED CARD OF 'parterrelaw2.DifferMade'. -/
def differMadeCard : Claim7 := { stood := { row := differMadeRow, standIns := [], harness := (true, "5059a59f5fabef826f5110f1291cc5202e29860b95fee31380543ea33e40c298"), looks := false }, kinds := [], alts := [], laidByText := true, laidKinds := [.data], laidTests := true, laidLooks := .later }
def DifferMadeCardSaid : Prop := Claim7.holds Tryd.pinned (.plain (OpenSpec.ofChange differMadeSpec)) differMadeCard

/-- THE SECOND FORM's CARD OF 'parterrelaw2.DifferMakes'. -/
def differMakesUptoCard : Claim7 := { stood := { row := differMakesUptoRow, standIns := [], harness := (true, "5059a59f5fabef826f5110f1291cc5202e29860b95fee31380543ea33e40c298"), looks := false }, kinds := [], alts := [], laidByText := true, laidKinds := [.data], laidTests := true, laidLooks := .later }
def DifferMakesUptoCardSaid : Prop := Claim7.holds Tryd.pinned (.plain (OpenSpec.upto differMakesSpec)) differMakesUptoCard

/-- THE SECOND FORM's CARD OF 'parterrelaw2.DifferMade'. -/
def differMadeUptoCard : Claim7 := { stood := { row := differMadeUptoRow, standIns := [], harness := (true, "5059a59f5fabef826f5110f1291cc5202e29860b95fee31380543ea33e40c298"), looks := false }, kinds := [], alts := [], laidByText := true, laidKinds := [.data], laidTests := true, laidLooks := .later }
def DifferMadeUptoCardSaid : Prop := Claim7.holds Tryd.pinned (.plain (OpenSpec.upto differMadeSpec)) differMadeUptoCard
end Rows
end Go.Proofs.YtogdcjlgddleaaaDoor
