/-
  DERIVED. GIVEN WITH THE SEED: THE CARDS: each row of YtgpkhfpejopacabDoorRows.lean that lists a variable, with what it lists TIED to the program's text (the seventh form; the later family's looks); each row that meets fmt, with fmt's text TOLD by the authors' own Lean function (tested against real Go, not proved from fmt's source: count such statements apart). THE CARD IS WHAT COUNTS. Prove the row's statement (the work); the ties are given (YtgpkhfpejopacabDoorTie.lean); close each card by the builder's one call (the guide's Derived/Test/ToyasCard.lean, 'card_holds'). Laid BY PROGRAM, IN A SANDBOX (cutbox-door.mjs). By AI agents, Wed Nov 11 2026. No macro, syntax, notation, axiom, sorry.
-/
import Derived.Test.YtgpkhfpejopacabDoorRows
import GoSem.ClaimSeven
namespace Go.Proofs.YtgpkhfpejopacabDoor
namespace Rows

/-- THE TIED CARD OF 'parterrelaw3.PlaneBose'. -/
def planeBoseCard : Claim7 := { stood := { row := planeBoseRow, standIns := [], harness := (true, "9bb21e8c36c4509cec41d45af6e094546005b0efa31906b7dcef9d80f2d89961"), looks := false }, kinds := [], alts := [], laidByText := true, laidKinds := [.data, .data], laidTests := true, laidLooks := .later }
def PlaneBoseCardSaid : Prop := Claim7.holds Tryd.pinned (.plain (OpenSpec.ofChange planeBoseSpec)) planeBoseCard

/-- THE SECOND FORM's CARD OF 'parterrelaw3.PlaneBose'. -/
def planeBoseUptoCard : Claim7 := { stood := { row := planeBoseUptoRow, standIns := [], harness := (true, "9bb21e8c36c4509cec41d45af6e094546005b0efa31906b7dcef9d80f2d89961"), looks := false }, kinds := [], alts := [], laidByText := true, laidKinds := [.data, .data], laidTests := true, laidLooks := .later }
def PlaneBoseUptoCardSaid : Prop := Claim7.holds Tryd.pinned (.plain (OpenSpec.upto planeBoseSpec)) planeBoseUptoCard
end Rows
end Go.Proofs.YtgpkhfpejopacabDoor
