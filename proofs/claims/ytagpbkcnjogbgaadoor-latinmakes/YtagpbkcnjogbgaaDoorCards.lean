/-
  DERIVED. GIVEN WITH THE SEED: THE CARDS: each row of YtagpbkcnjogbgaaDoorRows.lean that lists a variable, with what it lists TIED to the program's text (the seventh form; the later family's looks); each row that meets fmt, with fmt's text TOLD by the authors' own Lean function (tested against real Go, not proved from fmt's source: count such statements apart). THE CARD IS WHAT COUNTS. Prove the row's statement (the work); the ties are given (YtagpbkcnjogbgaaDoorTie.lean); close each card by the builder's one call (the guide's Derived/Test/ToyasCard.lean, 'card_holds'). Laid BY PROGRAM, IN A SANDBOX (cutbox-door.mjs). By AI agents, Wed Nov 11 2026. No macro, syntax, notation, axiom, sorry.
-/
import Derived.Test.YtagpbkcnjogbgaaDoorRows
import GoSem.ClaimSeven
namespace Go.Proofs.YtagpbkcnjogbgaaDoor
namespace Rows

/-- THE TIED CARD OF 'parterrelaw2.LatinChecks'. -/
def latinChecksCard : Claim7 := { stood := { row := latinChecksRow, standIns := [], harness := (true, "ac052d4594ce1caf866c7738cd8ed086aaf1e4bc932cb763d5c4ca99b5fab526"), looks := false }, kinds := [], alts := [], laidByText := true, laidKinds := [.data], laidTests := true, laidLooks := .later }
def LatinChecksCardSaid : Prop := Claim7.holds Tryd.pinned (.plain (OpenSpec.ofChange latinChecksSpec)) latinChecksCard

/-- THE TIED CARD OF 'parterrelaw2.LatinMakes'. -/
def latinMakesCard : Claim7 := { stood := { row := latinMakesRow, standIns := [], harness := (true, "ac052d4594ce1caf866c7738cd8ed086aaf1e4bc932cb763d5c4ca99b5fab526"), looks := false }, kinds := [], alts := [], laidByText := true, laidKinds := [.data], laidTests := true, laidLooks := .later }
def LatinMakesCardSaid : Prop := Claim7.holds Tryd.pinned (.plain (OpenSpec.ofChange latinMakesSpec)) latinMakesCard

/-- THE SECOND FORM's CARD OF 'parterrelaw2.LatinChecks'. -/
def latinChecksUptoCard : Claim7 := { stood := { row := latinChecksUptoRow, standIns := [], harness := (true, "ac052d4594ce1caf866c7738cd8ed086aaf1e4bc932cb763d5c4ca99b5fab526"), looks := false }, kinds := [], alts := [], laidByText := true, laidKinds := [.data], laidTests := true, laidLooks := .later }
def LatinChecksUptoCardSaid : Prop := Claim7.holds Tryd.pinned (.plain (OpenSpec.upto latinChecksSpec)) latinChecksUptoCard

/-- THE SECOND FORM's CARD OF 'parterrelaw2.LatinMakes'. -/
def latinMakesUptoCard : Claim7 := { stood := { row := latinMakesUptoRow, standIns := [], harness := (true, "ac052d4594ce1caf866c7738cd8ed086aaf1e4bc932cb763d5c4ca99b5fab526"), looks := false }, kinds := [], alts := [], laidByText := true, laidKinds := [.data], laidTests := true, laidLooks := .later }
def LatinMakesUptoCardSaid : Prop := Claim7.holds Tryd.pinned (.plain (OpenSpec.upto latinMakesSpec)) latinMakesUptoCard
end Rows
end Go.Proofs.YtagpbkcnjogbgaaDoor
