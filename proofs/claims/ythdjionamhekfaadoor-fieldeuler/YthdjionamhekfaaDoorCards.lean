/-
  DERIVED. GIVEN WITH THE SEED: THE CARDS: each row of YthdjionamhekfaaDoorRows.lean that lists a variable, with what it lists TIED to the program's text (the seventh form; the later family's looks); each row that meets fmt, with fmt's text TOLD by the authors' own Lean function (tested against real Go, not proved from fmt's source: count such statements apart). THE CARD IS WHAT COUNTS. Prove the row's statement (the work); the ties are given (YthdjionamhekfaaDoorTie.lean); close each card by the builder's one call (the guide's Derived/Test/ToyasCard.lean, 'card_holds'). Laid BY PROGRAM, IN A SANDBOX (cutbox-door.mjs). By AI agents, Wed Nov 11 2026. No macro, syntax, notation, axiom, sorry.
-/
import Derived.Test.YthdjionamhekfaaDoorRows
import GoSem.ClaimSeven
namespace Go.Proofs.YthdjionamhekfaaDoor
namespace Rows

/-- THE TIED CARD OF 'parterrelaw1.FieldTraces'. -/
def fieldTracesCard : Claim7 := { stood := { row := fieldTracesRow, standIns := [], harness := (true, "6e5cf1ff8babdd83069b5f01c59ef098b92ba2ea094c5806d25605b0a0d1b47b"), looks := false }, kinds := [], alts := [], laidByText := true, laidKinds := [.data], laidTests := true, laidLooks := .later }
def FieldTracesCardSaid : Prop := Claim7.holds Tryd.pinned (.plain (OpenSpec.ofChange fieldTracesSpec)) fieldTracesCard

/-- THE TIED CARD OF 'parterrelaw1.FieldEuler'. -/
def fieldEulerCard : Claim7 := { stood := { row := fieldEulerRow, standIns := [], harness := (true, "6e5cf1ff8babdd83069b5f01c59ef098b92ba2ea094c5806d25605b0a0d1b47b"), looks := false }, kinds := [], alts := [], laidByText := true, laidKinds := [.data], laidTests := true, laidLooks := .later }
def FieldEulerCardSaid : Prop := Claim7.holds Tryd.pinned (.plain (OpenSpec.ofChange fieldEulerSpec)) fieldEulerCard

/-- THE SECOND FORM's CARD OF 'parterrelaw1.FieldTraces'. -/
def fieldTracesUptoCard : Claim7 := { stood := { row := fieldTracesUptoRow, standIns := [], harness := (true, "6e5cf1ff8babdd83069b5f01c59ef098b92ba2ea094c5806d25605b0a0d1b47b"), looks := false }, kinds := [], alts := [], laidByText := true, laidKinds := [.data], laidTests := true, laidLooks := .later }
def FieldTracesUptoCardSaid : Prop := Claim7.holds Tryd.pinned (.plain (OpenSpec.upto fieldTracesSpec)) fieldTracesUptoCard

/-- THE SECOND FORM's CARD OF 'parterrelaw1.FieldEuler'. -/
def fieldEulerUptoCard : Claim7 := { stood := { row := fieldEulerUptoRow, standIns := [], harness := (true, "6e5cf1ff8babdd83069b5f01c59ef098b92ba2ea094c5806d25605b0a0d1b47b"), looks := false }, kinds := [], alts := [], laidByText := true, laidKinds := [.data], laidTests := true, laidLooks := .later }
def FieldEulerUptoCardSaid : Prop := Claim7.holds Tryd.pinned (.plain (OpenSpec.upto fieldEulerSpec)) fieldEulerUptoCard
end Rows
end Go.Proofs.YthdjionamhekfaaDoor
