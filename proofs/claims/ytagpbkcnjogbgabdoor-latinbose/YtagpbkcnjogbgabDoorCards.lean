/-
  DERIVED. GIVEN WITH THE SEED: THE CARDS: each row of YtagpbkcnjogbgabDoorRows.lean that lists a variable, with what it lists TIED to the program's text (the seventh form; the later family's looks); each row that meets fmt, with fmt's text TOLD by the authors' own Lean function (tested against real Go, not proved from fmt's source: count such statements apart). THE CARD IS WHAT COUNTS. Prove the row's statement (the work); the ties are given (YtagpbkcnjogbgabDoorTie.lean); close each card by the builder's one call (the guide's Derived/Test/ToyasCard.lean, 'card_holds'). Laid BY PROGRAM, IN A SANDBOX (cutbox-door.mjs). By AI agents, Wed Nov 11 2026. No macro, syntax, notation, axiom, sorry.
-/
import Derived.Test.YtagpbkcnjogbgabDoorRows
import GoSem.ClaimSeven
namespace Go.Proofs.YtagpbkcnjogbgabDoor
namespace Rows

/-- THE TIED CARD OF 'parterrelaw2.LatinBose'. -/
def latinBoseCard : Claim7 := { stood := { row := latinBoseRow, standIns := [], harness := (true, "4a550455074160367930c2d7813661e5eded4f5267b742db400a53095cc55437"), looks := false }, kinds := [], alts := [], laidByText := true, laidKinds := [.data], laidTests := true, laidLooks := .later }
def LatinBoseCardSaid : Prop := Claim7.holds Tryd.pinned (.plain (OpenSpec.ofChange latinBoseSpec)) latinBoseCard

/-- THE TIED CARD OF 'parterrelaw2.LatinTurns'. -/
def latinTurnsCard : Claim7 := { stood := { row := latinTurnsRow, standIns := [], harness := (true, "4a550455074160367930c2d7813661e5eded4f5267b742db400a53095cc55437"), looks := false }, kinds := [], alts := [], laidByText := true, laidKinds := [.data], laidTests := true, laidLooks := .later }
def LatinTurnsCardSaid : Prop := Claim7.holds Tryd.pinned (.plain (OpenSpec.ofChange latinTurnsSpec)) latinTurnsCard

/-- THE SECOND FORM's CARD OF 'parterrelaw2.LatinBose'. -/
def latinBoseUptoCard : Claim7 := { stood := { row := latinBoseUptoRow, standIns := [], harness := (true, "4a550455074160367930c2d7813661e5eded4f5267b742db400a53095cc55437"), looks := false }, kinds := [], alts := [], laidByText := true, laidKinds := [.data], laidTests := true, laidLooks := .later }
def LatinBoseUptoCardSaid : Prop := Claim7.holds Tryd.pinned (.plain (OpenSpec.upto latinBoseSpec)) latinBoseUptoCard

/-- THE SECOND FORM's CARD OF 'parterrelaw2.LatinTurns'. -/
def latinTurnsUptoCard : Claim7 := { stood := { row := latinTurnsUptoRow, standIns := [], harness := (true, "4a550455074160367930c2d7813661e5eded4f5267b742db400a53095cc55437"), looks := false }, kinds := [], alts := [], laidByText := true, laidKinds := [.data], laidTests := true, laidLooks := .later }
def LatinTurnsUptoCardSaid : Prop := Claim7.holds Tryd.pinned (.plain (OpenSpec.upto latinTurnsSpec)) latinTurnsUptoCard
end Rows
end Go.Proofs.YtagpbkcnjogbgabDoor
