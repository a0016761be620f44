/-
  DERIVED. GIVEN WITH THE SEED: THE CARDS: each row of YtdeofjmgjhfkcabDoorRows.lean that lists a variable, with what it lists TIED to the program's text (the seventh form; the later family's looks); each row that meets fmt, with fmt's text TOLD by the authors' own Lean function (tested against real Go, not proved from fmt's source: count such statements apart). THE CARD IS WHAT COUNTS. Prove the row's statement (the work); the ties are given (YtdeofjmgjhfkcabDoorTie.lean); close each card by the builder's one call (the guide's Derived/Test/ToyasCard.lean, 'card_holds'). Laid BY PROGRAM, IN A SANDBOX (cutbox-door.mjs). By AI agents, Wed Nov 11 2026. No macro, syntax, notation, axiom, sorry.
-/
import Derived.Test.YtdeofjmgjhfkcabDoorRows
import GoSem.ClaimSeven
namespace Go.Proofs.YtdeofjmgjhfkcabDoor
namespace Rows

/-- THE TIED CARD OF 'parterrelaw2.TripleCuts'. -/
def tripleCutsCard : Claim7 := { stood := { row := tripleCutsRow, standIns := [], harness := (true, "908cbc7c5538099c66dd65731ec6e1adb66f00f1658848f654465420fd7d4c1a"), looks := false }, kinds := [], alts := [], laidByText := true, laidKinds := [.data], laidTests := true, laidLooks := .later }
def TripleCutsCardSaid : Prop := Claim7.holds Tryd.pinned (.plain (OpenSpec.ofChange tripleCutsSpec)) tripleCutsCard

/-- THE SECOND FORM's CARD OF 'parterrelaw2.TripleCuts'. -/
def tripleCutsUptoCard : Claim7 := { stood := { row := tripleCutsUptoRow, standIns := [], harness := (true, "908cbc7c5538099c66dd65731ec6e1adb66f00f1658848f654465420fd7d4c1a"), looks := false }, kinds := [], alts := [], laidByText := true, laidKinds := [.data], laidTests := true, laidLooks := .later }
def TripleCutsUptoCardSaid : Prop := Claim7.holds Tryd.pinned (.plain (OpenSpec.upto tripleCutsSpec)) tripleCutsUptoCard
end Rows
end Go.Proofs.YtdeofjmgjhfkcabDoor
