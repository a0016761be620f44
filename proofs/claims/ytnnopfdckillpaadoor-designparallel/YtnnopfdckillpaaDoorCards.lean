/-
  DERIVED. GIVEN WITH THE SEED: THE CARDS: each row of YtnnopfdckillpaaDoorRows.lean that lists a variable, with what it lists TIED to the program's text (the seventh form; the later family's looks); each row that meets fmt, with fmt's text TOLD by the authors' own Lean function (tested against real Go, not proved from fmt's source: count such statements apart). THE CARD IS WHAT COUNTS. Prove the row's statement (the work); the ties are given (YtnnopfdckillpaaDoorTie.lean); close each card by the builder's one call (the guide's Derived/Test/ToyasCard.lean, 'card_holds'). Laid BY PROGRAM, IN A SANDBOX (cutbox-door.mjs). By AI agents, Wed Nov 11 2026. No macro, syntax, notation, axiom, sorry.
-/
import Derived.Test.YtnnopfdckillpaaDoorRows
import GoSem.ClaimSeven
namespace Go.Proofs.YtnnopfdckillpaaDoor
namespace Rows

/-- THE TIED CARD OF 'parterrelaw2.DesignTurns'. -/
def designTurnsCard : Claim7 := { stood := { row := designTurnsRow, standIns := [], harness := (true, "ff629741bcb6bdad907a0f798dc25439eb6c4fe1ac1d36532e7f8d90b8e9395d"), looks := false }, kinds := [], alts := [], laidByText := true, laidKinds := [.data], laidTests := true, laidLooks := .later }
def DesignTurnsCardSaid : Prop := Claim7.holds Tryd.pinned (.plain (OpenSpec.ofChange designTurnsSpec)) designTurnsCard

/-- THE TIED CARD OF 'parterrelaw2.DesignMeets'. -/
def designMeetsCard : Claim7 := { stood := { row := designMeetsRow, standIns := [], harness := (true, "ff629741bcb6bdad907a0f798dc25439eb6c4fe1ac1d36532e7f8d90b8e9395d"), looks := false }, kinds := [], alts := [], laidByText := true, laidKinds := [.data], laidTests := true, laidLooks := .later }
def DesignMeetsCardSaid : Prop := Claim7.holds Tryd.pinned (.plain (OpenSpec.ofChange designMeetsSpec)) designMeetsCard

/-- THE TIED CARD OF 'parterrelaw2.DesignParallel'. -/
def designParallelCard : Claim7 := { stood := { row := designParallelRow, standIns := [], harness := (true, "ff629741bcb6bdad907a0f798dc25439eb6c4fe1ac1d36532e7f8d90b8e9395d"), looks := false }, kinds := [], alts := [], laidByText := true, laidKinds := [.data], laidTests := true, laidLooks := .later }
def DesignParallelCardSaid : Prop := Claim7.holds Tryd.pinned (.plain (OpenSpec.ofChange designParallelSpec)) designParallelCard

/-- THE TIED CARD OF 'parterrelaw2.DesignRyser'. -/
def designRyserCard : Claim7 := { stood := { row := designRyserRow, standIns := [], harness := (true, "ff629741bcb6bdad907a0f798dc25439eb6c4fe1ac1d36532e7f8d90b8e9395d"), looks := false }, kinds := [], alts := [], laidByText := true, laidKinds := [.data], laidTests := true, laidLooks := .later }
def DesignRyserCardSaid : Prop := Claim7.holds Tryd.pinned (.plain (OpenSpec.ofChange designRyserSpec)) designRyserCard

/-- THE SECOND FORM's CARD OF 'parterrelaw2.DesignTurns'. -/
def designTurnsUptoCard : Claim7 := { stood := { row := designTurnsUptoRow, standIns := [], harness := (true, "ff629741bcb6bdad907a0f798dc25439eb6c4fe1ac1d36532e7f8d90b8e9395d"), looks := false }, kinds := [], alts := [], laidByText := true, laidKinds := [.data], laidTests := true, laidLooks := .later }
def DesignTurnsUptoCardSaid : Prop := Claim7.holds Tryd.pinned (.plain (OpenSpec.upto designTurnsSpec)) designTurnsUptoCard

/-- THE SECOND FORM's CARD OF 'parterrelaw2.DesignMeets'. -/
def designMeetsUptoCard : Claim7 := { stood := { row := designMeetsUptoRow, standIns := [], harness := (true, "ff629741bcb6bdad907a0f798dc25439eb6c4fe1ac1d36532e7f8d90b8e9395d"), looks := false }, kinds := [], alts := [], laidByText := true, laidKinds := [.data], laidTests := true, laidLooks := .later }
def DesignMeetsUptoCardSaid : Prop := Claim7.holds Tryd.pinned (.plain (OpenSpec.upto designMeetsSpec)) designMeetsUptoCard

/-- THE SECOND FORM's CARD OF 'parterrelaw2.DesignParallel'. -/
def designParallelUptoCard : Claim7 := { stood := { row := designParallelUptoRow, standIns := [], harness := (true, "ff629741bcb6bdad907a0f798dc25439eb6c4fe1ac1d36532e7f8d90b8e9395d"), looks := false }, kinds := [], alts := [], laidByText := true, laidKinds := [.data], laidTests := true, laidLooks := .later }
def DesignParallelUptoCardSaid : Prop := Claim7.holds Tryd.pinned (.plain (OpenSpec.upto designParallelSpec)) designParallelUptoCard

/-- THE SECOND FORM's CARD OF 'parterrelaw2.DesignRyser'. -/
def designRyserUptoCard : Claim7 := { stood := { row := designRyserUptoRow, standIns := [], harness := (true, "ff629741bcb6bdad907a0f798dc25439eb6c4fe1ac1d36532e7f8d90b8e9395d"), looks := false }, kinds := [], alts := [], laidByText := true, laidKinds := [.data], laidTests := true, laidLooks := .later }
def DesignRyserUptoCardSaid : Prop := Claim7.holds Tryd.pinned (.plain (OpenSpec.upto designRyserSpec)) designRyserUptoCard
end Rows
end Go.Proofs.YtnnopfdckillpaaDoor
