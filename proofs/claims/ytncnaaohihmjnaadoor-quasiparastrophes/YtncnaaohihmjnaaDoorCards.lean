/-
  DERIVED. GIVEN WITH THE SEED: THE CARDS: each row of YtncnaaohihmjnaaDoorRows.lean that lists a variable, with what it lists TIED to the program's text (the seventh form; the later family's looks); each row that meets fmt, with fmt's text TOLD by the authors' own Lean function (tested against real Go, not proved from fmt's source: count such statements apart). THE CARD IS WHAT COUNTS. Prove the row's statement (the work); the ties are given (YtncnaaohihmjnaaDoorTie.lean); close each card by the builder's one call (the guide's Derived/Test/ToyasCard.lean, 'card_holds'). Laid BY PROGRAM, IN A SANDBOX (cutbox-door.mjs). By AI agents, Wed Nov 11 2026. No macro, syntax, notation, axiom, sorry.
-/
import Derived.Test.YtncnaaohihmjnaaDoorRows
import GoSem.ClaimSeven
namespace Go.Proofs.YtncnaaohihmjnaaDoor
namespace Rows

/-- THE TIED CARD OF 'parterrelaw2.QuasiParastrophes'. -/
def quasiParastrophesCard : Claim7 := { stood := { row := quasiParastrophesRow, standIns := [], harness := (true, "8554fa263d3476d7f36328b644a2c0feaf68fc3214342ceb6f51599b981729f0"), looks := false }, kinds := [], alts := [], laidByText := true, laidKinds := [.data], laidTests := true, laidLooks := .later }
def QuasiParastrophesCardSaid : Prop := Claim7.holds Tryd.pinned (.plain (OpenSpec.ofChange quasiParastrophesSpec)) quasiParastrophesCard

/-- THE SECOND FORM's CARD OF 'parterrelaw2.QuasiParastrophes'. -/
def quasiParastrophesUptoCard : Claim7 := { stood := { row := quasiParastrophesUptoRow, standIns := [], harness := (true, "8554fa263d3476d7f36328b644a2c0feaf68fc3214342ceb6f51599b981729f0"), looks := false }, kinds := [], alts := [], laidByText := true, laidKinds := [.data], laidTests := true, laidLooks := .later }
def QuasiParastrophesUptoCardSaid : Prop := Claim7.holds Tryd.pinned (.plain (OpenSpec.upto quasiParastrophesSpec)) quasiParastrophesUptoCard
end Rows
end Go.Proofs.YtncnaaohihmjnaaDoor
