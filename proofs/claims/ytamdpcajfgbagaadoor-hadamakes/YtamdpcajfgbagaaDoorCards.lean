/-
  DERIVED. GIVEN WITH THE SEED: THE CARDS: each row of YtamdpcajfgbagaaDoorRows.lean that lists a variable, with what it lists TIED to the program's text (the seventh form; the later family's looks); each row that meets fmt, with fmt's text TOLD by the authors' own Lean function (tested against real Go, not proved from fmt's source: count such statements apart). THE CARD IS WHAT COUNTS. Prove the row's statement (the work); the ties are given (YtamdpcajfgbagaaDoorTie.lean); close each card by the builder's one call (the guide's Derived/Test/ToyasCard.lean, 'card_holds'). Laid BY PROGRAM, IN A SANDBOX (cutbox-door.mjs). By AI agents, Wed Nov 11 2026. No macro, syntax, notation, axiom, sorry.
-/
import Derived.Test.YtamdpcajfgbagaaDoorRows
import GoSem.ClaimSeven
namespace Go.Proofs.YtamdpcajfgbagaaDoor
namespace Rows

/-- THE TIED CARD OF 'parterrelaw3.HadaMakes'. -/
def hadaMakesCard : Claim7 := { stood := { row := hadaMakesRow, standIns := [], harness := (true, "c479aeb30c71cc81ec89c92a8fbd0b3462d834e10051ae39508ebeafa0ef121a"), looks := false }, kinds := [], alts := [], laidByText := true, laidKinds := [.data], laidTests := true, laidLooks := .later }
def HadaMakesCardSaid : Prop := Claim7.holds Tryd.pinned (.plain (OpenSpec.ofChange hadaMakesSpec)) hadaMakesCard

/-- THE TIED CARD OF 'parterrelaw3.HadaMade'. -/
def hadaMadeCard : Claim7 := { stood := { row := hadaMadeRow, standIns := [], harness := (true, "c479aeb30c71cc81ec89c92a8fbd0b3462d834e10051ae39508ebeafa0ef121a"), looks := false }, kinds := [], alts := [], laidByText := true, laidKinds := [.data], laidTests := true, laidLooks := .later }
def HadaMadeCardSaid : Prop := Claim7.holds Tryd.pinned (.plain (OpenSpec.ofChange hadaMadeSpec)) hadaMadeCard

/-- THE SECOND FORM's CARD OF 'parterrelaw3.HadaMakes'. -/
def hadaMakesUptoCard : Claim7 := { stood := { row := hadaMakesUptoRow, standIns := [], harness := (true, "c479aeb30c71cc81ec89c92a8fbd0b3462d834e10051ae39508ebeafa0ef121a"), looks := false }, kinds := [], alts := [], laidByText := true, laidKinds := [.data], laidTests := true, laidLooks := .later }
def HadaMakesUptoCardSaid : Prop := Claim7.holds Tryd.pinned (.plain (OpenSpec.upto hadaMakesSpec)) hadaMakesUptoCard

/-- THE SECOND FORM's CARD OF 'parterrelaw3.HadaMade'. -/
def hadaMadeUptoCard : Claim7 := { stood := { row := hadaMadeUptoRow, standIns := [], harness := (true, "c479aeb30c71cc81ec89c92a8fbd0b3462d834e10051ae39508ebeafa0ef121a"), looks := false }, kinds := [], alts := [], laidByText := true, laidKinds := [.data], laidTests := true, laidLooks := .later }
def HadaMadeUptoCardSaid : Prop := Claim7.holds Tryd.pinned (.plain (OpenSpec.upto hadaMadeSpec)) hadaMadeUptoCard
end Rows
end Go.Proofs.YtamdpcajfgbagaaDoor
