/-
  DERIVED. GIVEN WITH THE SEED: THE CARDS: each row of YtgpkhfpejopacabGreatDoorRows.lean that lists a variable, with what it lists TIED to the program's text (the seventh form; the later family's looks); each row that meets fmt, with fmt's text TOLD by the authors' own Lean function (tested against real Go, not proved from fmt's source: count such statements apart). THE CARD IS WHAT COUNTS. Prove the row's statement (the work); the ties are given (YtgpkhfpejopacabGreatDoorTie.lean); close each card by the builder's one call (the guide's Derived/Test/ToyasCard.lean, 'card_holds'). Laid BY PROGRAM, IN A SANDBOX (cutbox-door.mjs). By AI agents, Wed Nov 11 2026. No macro, syntax, notation, axiom, sorry.
-/
import Derived.Test.YtgpkhfpejopacabGreatDoorRows
import GoSem.ClaimSeven
namespace Go.Proofs.YtgpkhfpejopacabGreatDoor
namespace Rows

/-- THE TIED CARD OF 'parterretop.TopSteiner'. -/
def topSteinerCard : Claim7 := { stood := { row := topSteinerRow, standIns := [], harness := (true, "5fa3028805f45fd47dc8e17dba0d8c44b93fff50ef616966a37af61b23f0305f"), looks := false }, kinds := [], alts := [], laidByText := true, laidKinds := [.data, .data], laidTests := true, laidLooks := .later }
def TopSteinerCardSaid : Prop := Claim7.holds Tryz.pinned (.plain (OpenSpec.ofChange topSteinerSpec)) topSteinerCard

/-- THE TIED CARD OF 'parterretop.TopOrbits'. -/
def topOrbitsCard : Claim7 := { stood := { row := topOrbitsRow, standIns := [], harness := (true, "5fa3028805f45fd47dc8e17dba0d8c44b93fff50ef616966a37af61b23f0305f"), looks := false }, kinds := [], alts := [], laidByText := true, laidKinds := [.data, .data], laidTests := true, laidLooks := .later }
def TopOrbitsCardSaid : Prop := Claim7.holds Tryz.pinned (.plain (OpenSpec.ofChange topOrbitsSpec)) topOrbitsCard

/-- THE SECOND FORM's CARD OF 'parterretop.TopSteiner'. -/
def topSteinerUptoCard : Claim7 := { stood := { row := topSteinerUptoRow, standIns := [], harness := (true, "5fa3028805f45fd47dc8e17dba0d8c44b93fff50ef616966a37af61b23f0305f"), looks := false }, kinds := [], alts := [], laidByText := true, laidKinds := [.data, .data], laidTests := true, laidLooks := .later }
def TopSteinerUptoCardSaid : Prop := Claim7.holds Tryz.pinned (.plain (OpenSpec.upto topSteinerSpec)) topSteinerUptoCard

/-- THE SECOND FORM's CARD OF 'parterretop.TopOrbits'. -/
def topOrbitsUptoCard : Claim7 := { stood := { row := topOrbitsUptoRow, standIns := [], harness := (true, "5fa3028805f45fd47dc8e17dba0d8c44b93fff50ef616966a37af61b23f0305f"), looks := false }, kinds := [], alts := [], laidByText := true, laidKinds := [.data, .data], laidTests := true, laidLooks := .later }
def TopOrbitsUptoCardSaid : Prop := Claim7.holds Tryz.pinned (.plain (OpenSpec.upto topOrbitsSpec)) topOrbitsUptoCard
end Rows
end Go.Proofs.YtgpkhfpejopacabGreatDoor
