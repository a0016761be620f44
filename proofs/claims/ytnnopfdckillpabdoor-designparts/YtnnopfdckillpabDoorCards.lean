/-
  DERIVED. GIVEN WITH THE SEED: THE CARDS: each row of YtnnopfdckillpabDoorRows.lean that lists a variable, with what it lists TIED to the program's text (the seventh form; the later family's looks); each row that meets fmt, with fmt's text TOLD by the authors' own Lean function (tested against real Go, not proved from fmt's source: count such statements apart). THE CARD IS WHAT COUNTS. Prove the row's statement (the work); the ties are given (YtnnopfdckillpabDoorTie.lean); close each card by the builder's one call (the guide's Derived/Test/ToyasCard.lean, 'card_holds'). Laid BY PROGRAM, IN A SANDBOX (cutbox-door.mjs). By AI agents, Wed Nov 11 2026. No macro, syntax, notation, axiom, sorry.
-/
import Derived.Test.YtnnopfdckillpabDoorRows
import GoSem.ClaimSeven
namespace Go.Proofs.YtnnopfdckillpabDoor
namespace Rows

/-- THE TIED CARD OF 'parterrelaw2.DesignOther'. -/
def designOtherCard : Claim7 := { stood := { row := designOtherRow, standIns := [], harness := (true, "dfe2e68be289d4d3604071659422506372ecb9bbca83592d7d13e324f5c3048e"), looks := false }, kinds := [], alts := [], laidByText := true, laidKinds := [.data], laidTests := true, laidLooks := .later }
def DesignOtherCardSaid : Prop := Claim7.holds Tryd.pinned (.plain (OpenSpec.ofChange designOtherSpec)) designOtherCard

/-- THE TIED CARD OF 'parterrelaw2.DesignParts'. -/
def designPartsCard : Claim7 := { stood := { row := designPartsRow, standIns := [], harness := (true, "dfe2e68be289d4d3604071659422506372ecb9bbca83592d7d13e324f5c3048e"), looks := false }, kinds := [], alts := [], laidByText := true, laidKinds := [.data], laidTests := true, laidLooks := .later }
def DesignPartsCardSaid : Prop := Claim7.holds Tryd.pinned (.plain (OpenSpec.ofChange designPartsSpec)) designPartsCard

/-- THE SECOND FORM's CARD OF 'parterrelaw2.DesignOther'. -/
def designOtherUptoCard : Claim7 := { stood := { row := designOtherUptoRow, standIns := [], harness := (true, "dfe2e68be289d4d3604071659422506372ecb9bbca83592d7d13e324f5c3048e"), looks := false }, kinds := [], alts := [], laidByText := true, laidKinds := [.data], laidTests := true, laidLooks := .later }
def DesignOtherUptoCardSaid : Prop := Claim7.holds Tryd.pinned (.plain (OpenSpec.upto designOtherSpec)) designOtherUptoCard

/-- THE SECOND FORM's CARD OF 'parterrelaw2.DesignParts'. -/
def designPartsUptoCard : Claim7 := { stood := { row := designPartsUptoRow, standIns := [], harness := (true, "dfe2e68be289d4d3604071659422506372ecb9bbca83592d7d13e324f5c3048e"), looks := false }, kinds := [], alts := [], laidByText := true, laidKinds := [.data], laidTests := true, laidLooks := .later }
def DesignPartsUptoCardSaid : Prop := Claim7.holds Tryd.pinned (.plain (OpenSpec.upto designPartsSpec)) designPartsUptoCard
end Rows
end Go.Proofs.YtnnopfdckillpabDoor
