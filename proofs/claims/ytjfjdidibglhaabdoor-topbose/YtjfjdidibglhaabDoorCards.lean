/-
  DERIVED. GIVEN WITH THE SEED: THE CARDS: each row of YtjfjdidibglhaabDoorRows.lean that lists a variable, with what it lists TIED to the program's text (the seventh form; the later family's looks); each row that meets fmt, with fmt's text TOLD by the authors' own Lean function (tested against real Go, not proved from fmt's source: count such statements apart). THE CARD IS WHAT COUNTS. Prove the row's statement (the work); the ties are given (YtjfjdidibglhaabDoorTie.lean); close each card by the builder's one call (the guide's Derived/Test/ToyasCard.lean, 'card_holds'). Laid BY PROGRAM, IN A SANDBOX (cutbox-door.mjs). By AI agents, Wed Nov 11 2026. No macro, syntax, notation, axiom, sorry.
-/
import Derived.Test.YtjfjdidibglhaabDoorRows
import GoSem.ClaimSeven
namespace Go.Proofs.YtjfjdidibglhaabDoor
namespace Rows

/-- THE TIED CARD OF 'parterrelaw3.ArrayDual'. -/
def arrayDualCard : Claim7 := { stood := { row := arrayDualRow, standIns := [], harness := (true, "9e90adf412c7c6f5deaaba05d8734e3a834fef10b425b726213d0a7bd6d500c1"), looks := false }, kinds := [], alts := [], laidByText := true, laidKinds := [.data], laidTests := true, laidLooks := .later }
def ArrayDualCardSaid : Prop := Claim7.holds Tryd.pinned (.plain (OpenSpec.ofChange arrayDualSpec)) arrayDualCard

/-- THE TIED CARD OF 'parterretop.TopBose'. -/
def topBoseCard : Claim7 := { stood := { row := topBoseRow, standIns := [], harness := (true, "9e90adf412c7c6f5deaaba05d8734e3a834fef10b425b726213d0a7bd6d500c1"), looks := false }, kinds := [], alts := [], laidByText := true, laidKinds := [.data, .data], laidTests := true, laidLooks := .later }
def TopBoseCardSaid : Prop := Claim7.holds Tryd.pinned (.plain (OpenSpec.ofChange topBoseSpec)) topBoseCard

/-- THE TIED CARD OF 'parterretop.TopCodes'. -/
def topCodesCard : Claim7 := { stood := { row := topCodesRow, standIns := [], harness := (true, "9e90adf412c7c6f5deaaba05d8734e3a834fef10b425b726213d0a7bd6d500c1"), looks := false }, kinds := [], alts := [], laidByText := true, laidKinds := [.data, .data], laidTests := true, laidLooks := .later }
def TopCodesCardSaid : Prop := Claim7.holds Tryd.pinned (.plain (OpenSpec.ofChange topCodesSpec)) topCodesCard

/-- THE SECOND FORM's CARD OF 'parterrelaw3.ArrayDual'. -/
def arrayDualUptoCard : Claim7 := { stood := { row := arrayDualUptoRow, standIns := [], harness := (true, "9e90adf412c7c6f5deaaba05d8734e3a834fef10b425b726213d0a7bd6d500c1"), looks := false }, kinds := [], alts := [], laidByText := true, laidKinds := [.data], laidTests := true, laidLooks := .later }
def ArrayDualUptoCardSaid : Prop := Claim7.holds Tryd.pinned (.plain (OpenSpec.upto arrayDualSpec)) arrayDualUptoCard

/-- THE SECOND FORM's CARD OF 'parterretop.TopBose'. -/
def topBoseUptoCard : Claim7 := { stood := { row := topBoseUptoRow, standIns := [], harness := (true, "9e90adf412c7c6f5deaaba05d8734e3a834fef10b425b726213d0a7bd6d500c1"), looks := false }, kinds := [], alts := [], laidByText := true, laidKinds := [.data, .data], laidTests := true, laidLooks := .later }
def TopBoseUptoCardSaid : Prop := Claim7.holds Tryd.pinned (.plain (OpenSpec.upto topBoseSpec)) topBoseUptoCard

/-- THE SECOND FORM's CARD OF 'parterretop.TopCodes'. -/
def topCodesUptoCard : Claim7 := { stood := { row := topCodesUptoRow, standIns := [], harness := (true, "9e90adf412c7c6f5deaaba05d8734e3a834fef10b425b726213d0a7bd6d500c1"), looks := false }, kinds := [], alts := [], laidByText := true, laidKinds := [.data, .data], laidTests := true, laidLooks := .later }
def TopCodesUptoCardSaid : Prop := Claim7.holds Tryd.pinned (.plain (OpenSpec.upto topCodesSpec)) topCodesUptoCard
end Rows
end Go.Proofs.YtjfjdidibglhaabDoor
