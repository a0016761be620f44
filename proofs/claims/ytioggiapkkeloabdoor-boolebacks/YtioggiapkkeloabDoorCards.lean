/-
  DERIVED. GIVEN WITH THE SEED: THE CARDS: each row of YtioggiapkkeloabDoorRows.lean that lists a variable, with what it lists TIED to the program's text (the seventh form; the later family's looks); each row that meets fmt, with fmt's text TOLD by the authors' own Lean function (tested against real Go, not proved from fmt's source: count such statements apart). THE CARD IS WHAT COUNTS. Prove the row's statement (the work); the ties are given (YtioggiapkkeloabDoorTie.lean); close each card by the builder's one call (the guide's Derived/Test/ToyasCard.lean, 'card_holds'). Laid BY PROGRAM, IN A SANDBOX (cutbox-door.mjs). By AI agents, Wed Nov 11 2026. No macro, syntax, notation, axiom, sorry.
-/
import Derived.Test.YtioggiapkkeloabDoorRows
import GoSem.ClaimSeven
namespace Go.Proofs.YtioggiapkkeloabDoor
namespace Rows

/-- THE TIED CARD OF 'parterrelaw3.BooleBacks'. -/
def booleBacksCard : Claim7 := { stood := { row := booleBacksRow, standIns := [], harness := (true, "5735e1d1629a8db31be4c38caadacd843409e94734743066718f4aa5893a2877"), looks := false }, kinds := [], alts := [], laidByText := true, laidKinds := [.data, .data], laidTests := true, laidLooks := .later }
def BooleBacksCardSaid : Prop := Claim7.holds Tryd.pinned (.plain (OpenSpec.ofChange booleBacksSpec)) booleBacksCard

/-- THE SECOND FORM's CARD OF 'parterrelaw3.BooleBacks'. -/
def booleBacksUptoCard : Claim7 := { stood := { row := booleBacksUptoRow, standIns := [], harness := (true, "5735e1d1629a8db31be4c38caadacd843409e94734743066718f4aa5893a2877"), looks := false }, kinds := [], alts := [], laidByText := true, laidKinds := [.data, .data], laidTests := true, laidLooks := .later }
def BooleBacksUptoCardSaid : Prop := Claim7.holds Tryd.pinned (.plain (OpenSpec.upto booleBacksSpec)) booleBacksUptoCard
end Rows
end Go.Proofs.YtioggiapkkeloabDoor
