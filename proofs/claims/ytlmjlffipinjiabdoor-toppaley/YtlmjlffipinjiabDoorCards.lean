/-
  DERIVED. GIVEN WITH THE SEED: THE CARDS: each row of YtlmjlffipinjiabDoorRows.lean that lists a variable, with what it lists TIED to the program's text (the seventh form; the later family's looks); each row that meets fmt, with fmt's text TOLD by the authors' own Lean function (tested against real Go, not proved from fmt's source: count such statements apart). THE CARD IS WHAT COUNTS. Prove the row's statement (the work); the ties are given (YtlmjlffipinjiabDoorTie.lean); close each card by the builder's one call (the guide's Derived/Test/ToyasCard.lean, 'card_holds'). Laid BY PROGRAM, IN A SANDBOX (cutbox-door.mjs). By AI agents, Wed Nov 11 2026. No macro, syntax, notation, axiom, sorry.
-/
import Derived.Test.YtlmjlffipinjiabDoorRows
import GoSem.ClaimSeven
namespace Go.Proofs.YtlmjlffipinjiabDoor
namespace Rows

/-- THE TIED CARD OF 'parterretop.TopPaley'. -/
def topPaleyCard : Claim7 := { stood := { row := topPaleyRow, standIns := [], harness := (true, "e1ef1fd429eca08c9e067c8a75823839bea23e09d8abb26d511e5b48c954a6f3"), looks := false }, kinds := [], alts := [], laidByText := true, laidKinds := [.data, .data], laidTests := true, laidLooks := .later }
def TopPaleyCardSaid : Prop := Claim7.holds Tryd.pinned (.plain (OpenSpec.ofChange topPaleySpec)) topPaleyCard

/-- THE SECOND FORM's CARD OF 'parterretop.TopPaley'. -/
def topPaleyUptoCard : Claim7 := { stood := { row := topPaleyUptoRow, standIns := [], harness := (true, "e1ef1fd429eca08c9e067c8a75823839bea23e09d8abb26d511e5b48c954a6f3"), looks := false }, kinds := [], alts := [], laidByText := true, laidKinds := [.data, .data], laidTests := true, laidLooks := .later }
def TopPaleyUptoCardSaid : Prop := Claim7.holds Tryd.pinned (.plain (OpenSpec.upto topPaleySpec)) topPaleyUptoCard
end Rows
end Go.Proofs.YtlmjlffipinjiabDoor
