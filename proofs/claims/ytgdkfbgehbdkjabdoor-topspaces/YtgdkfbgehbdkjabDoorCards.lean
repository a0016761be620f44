/-
  DERIVED. GIVEN WITH THE SEED: THE CARDS: each row of YtgdkfbgehbdkjabDoorRows.lean that lists a variable, with what it lists TIED to the program's text (the seventh form; the later family's looks); each row that meets fmt, with fmt's text TOLD by the authors' own Lean function (tested against real Go, not proved from fmt's source: count such statements apart). THE CARD IS WHAT COUNTS. Prove the row's statement (the work); the ties are given (YtgdkfbgehbdkjabDoorTie.lean); close each card by the builder's one call (the guide's Derived/Test/ToyasCard.lean, 'card_holds'). Laid BY PROGRAM, IN A SANDBOX (cutbox-door.mjs). By AI agents, Wed Nov 11 2026. No macro, syntax, notation, axiom, sorry.
-/
import Derived.Test.YtgdkfbgehbdkjabDoorRows
import GoSem.ClaimSeven
namespace Go.Proofs.YtgdkfbgehbdkjabDoor
namespace Rows

/-- THE TIED CARD OF 'parterretop.TopSinger'. -/
def topSingerCard : Claim7 := { stood := { row := topSingerRow, standIns := [], harness := (true, "ddb08e33d7736cc143edae50550998902b1b140765340da1d0b8f64ae7d09a79"), looks := false }, kinds := [], alts := [], laidByText := true, laidKinds := [.data, .data], laidTests := true, laidLooks := .later }
def TopSingerCardSaid : Prop := Claim7.holds Tryd.pinned (.plain (OpenSpec.ofChange topSingerSpec)) topSingerCard

/-- THE TIED CARD OF 'parterretop.TopSpaces'. -/
def topSpacesCard : Claim7 := { stood := { row := topSpacesRow, standIns := [], harness := (true, "ddb08e33d7736cc143edae50550998902b1b140765340da1d0b8f64ae7d09a79"), looks := false }, kinds := [], alts := [], laidByText := true, laidKinds := [.data, .data], laidTests := true, laidLooks := .later }
def TopSpacesCardSaid : Prop := Claim7.holds Tryd.pinned (.plain (OpenSpec.ofChange topSpacesSpec)) topSpacesCard

/-- THE SECOND FORM's CARD OF 'parterretop.TopSinger'. -/
def topSingerUptoCard : Claim7 := { stood := { row := topSingerUptoRow, standIns := [], harness := (true, "ddb08e33d7736cc143edae50550998902b1b140765340da1d0b8f64ae7d09a79"), looks := false }, kinds := [], alts := [], laidByText := true, laidKinds := [.data, .data], laidTests := true, laidLooks := .later }
def TopSingerUptoCardSaid : Prop := Claim7.holds Tryd.pinned (.plain (OpenSpec.upto topSingerSpec)) topSingerUptoCard

/-- THE SECOND FORM's CARD OF 'parterretop.TopSpaces'. -/
def topSpacesUptoCard : Claim7 := { stood := { row := topSpacesUptoRow, standIns := [], harness := (true, "ddb08e33d7736cc143edae50550998902b1b140765340da1d0b8f64ae7d09a79"), looks := false }, kinds := [], alts := [], laidByText := true, laidKinds := [.data, .data], laidTests := true, laidLooks := .later }
def TopSpacesUptoCardSaid : Prop := Claim7.holds Tryd.pinned (.plain (OpenSpec.upto topSpacesSpec)) topSpacesUptoCard
end Rows
end Go.Proofs.YtgdkfbgehbdkjabDoor
