/-
  DERIVED. GIVEN WITH THE SEED: THE CARDS: each row of YtgpkhfpejopacaaDoorRows.lean that lists a variable, with what it lists TIED to the program's text (the seventh form; the later family's looks); each row that meets fmt, with fmt's text TOLD by the authors' own Lean function (tested against real Go, not proved from fmt's source: count such statements apart). THE CARD IS WHAT COUNTS. Prove the row's statement (the work); the ties are given (YtgpkhfpejopacaaDoorTie.lean); close each card by the builder's one call (the guide's Derived/Test/ToyasCard.lean, 'card_holds'). Laid BY PROGRAM, IN A SANDBOX (cutbox-door.mjs). By AI agents, Wed Nov 11 2026. No macro, syntax, notation, axiom, sorry.
-/
import Derived.Test.YtgpkhfpejopacaaDoorRows
import GoSem.ClaimSeven
namespace Go.Proofs.YtgpkhfpejopacaaDoor
namespace Rows

/-- THE TIED CARD OF 'parterrelaw3.PlaneMakes'. -/
def planeMakesCard : Claim7 := { stood := { row := planeMakesRow, standIns := [], harness := (true, "7410e794c393cf077dac40b90a923c18b4f9af7b3be8359f99dc6fe40514eab0"), looks := false }, kinds := [], alts := [], laidByText := true, laidKinds := [.data], laidTests := true, laidLooks := .later }
def PlaneMakesCardSaid : Prop := Claim7.holds Tryd.pinned (.plain (OpenSpec.ofChange planeMakesSpec)) planeMakesCard

/-- THE TIED CARD OF 'parterrelaw3.PlaneJoins'. -/
def planeJoinsCard : Claim7 := { stood := { row := planeJoinsRow, standIns := [], harness := (true, "7410e794c393cf077dac40b90a923c18b4f9af7b3be8359f99dc6fe40514eab0"), looks := false }, kinds := [], alts := [], laidByText := true, laidKinds := [.data], laidTests := true, laidLooks := .later }
def PlaneJoinsCardSaid : Prop := Claim7.holds Tryd.pinned (.plain (OpenSpec.ofChange planeJoinsSpec)) planeJoinsCard

/-- THE TIED CARD OF 'parterrelaw3.PlaneArcs'. -/
def planeArcsCard : Claim7 := { stood := { row := planeArcsRow, standIns := [], harness := (true, "7410e794c393cf077dac40b90a923c18b4f9af7b3be8359f99dc6fe40514eab0"), looks := false }, kinds := [], alts := [], laidByText := true, laidKinds := [.data], laidTests := true, laidLooks := .later }
def PlaneArcsCardSaid : Prop := Claim7.holds Tryd.pinned (.plain (OpenSpec.ofChange planeArcsSpec)) planeArcsCard

/-- THE TIED CARD OF 'parterrelaw3.PlaneFields'. -/
def planeFieldsCard : Claim7 := { stood := { row := planeFieldsRow, standIns := [], harness := (true, "7410e794c393cf077dac40b90a923c18b4f9af7b3be8359f99dc6fe40514eab0"), looks := false }, kinds := [], alts := [], laidByText := true, laidKinds := [.data, .data], laidTests := true, laidLooks := .later }
def PlaneFieldsCardSaid : Prop := Claim7.holds Tryd.pinned (.plain (OpenSpec.ofChange planeFieldsSpec)) planeFieldsCard

/-- THE TIED CARD OF 'parterrelaw3.PlanePappus'. -/
def planePappusCard : Claim7 := { stood := { row := planePappusRow, standIns := [], harness := (true, "7410e794c393cf077dac40b90a923c18b4f9af7b3be8359f99dc6fe40514eab0"), looks := false }, kinds := [], alts := [], laidByText := true, laidKinds := [.data, .data], laidTests := true, laidLooks := .later }
def PlanePappusCardSaid : Prop := Claim7.holds Tryd.pinned (.plain (OpenSpec.ofChange planePappusSpec)) planePappusCard

/-- THE TIED CARD OF 'parterrelaw3.PlaneDesargues'. -/
def planeDesarguesCard : Claim7 := { stood := { row := planeDesarguesRow, standIns := [], harness := (true, "7410e794c393cf077dac40b90a923c18b4f9af7b3be8359f99dc6fe40514eab0"), looks := false }, kinds := [], alts := [], laidByText := true, laidKinds := [.data, .data], laidTests := true, laidLooks := .later }
def PlaneDesarguesCardSaid : Prop := Claim7.holds Tryd.pinned (.plain (OpenSpec.ofChange planeDesarguesSpec)) planeDesarguesCard

/-- THE SECOND FORM's CARD OF 'parterrelaw3.PlaneMakes'. -/
def planeMakesUptoCard : Claim7 := { stood := { row := planeMakesUptoRow, standIns := [], harness := (true, "7410e794c393cf077dac40b90a923c18b4f9af7b3be8359f99dc6fe40514eab0"), looks := false }, kinds := [], alts := [], laidByText := true, laidKinds := [.data], laidTests := true, laidLooks := .later }
def PlaneMakesUptoCardSaid : Prop := Claim7.holds Tryd.pinned (.plain (OpenSpec.upto planeMakesSpec)) planeMakesUptoCard

/-- THE SECOND FORM's CARD OF 'parterrelaw3.PlaneJoins'. -/
def planeJoinsUptoCard : Claim7 := { stood := { row := planeJoinsUptoRow, standIns := [], harness := (true, "7410e794c393cf077dac40b90a923c18b4f9af7b3be8359f99dc6fe40514eab0"), looks := false }, kinds := [], alts := [], laidByText := true, laidKinds := [.data], laidTests := true, laidLooks := .later }
def PlaneJoinsUptoCardSaid : Prop := Claim7.holds Tryd.pinned (.plain (OpenSpec.upto planeJoinsSpec)) planeJoinsUptoCard

/-- THE SECOND FORM's CARD OF 'parterrelaw3.PlaneArcs'. -/
def planeArcsUptoCard : Claim7 := { stood := { row := planeArcsUptoRow, standIns := [], harness := (true, "7410e794c393cf077dac40b90a923c18b4f9af7b3be8359f99dc6fe40514eab0"), looks := false }, kinds := [], alts := [], laidByText := true, laidKinds := [.data], laidTests := true, laidLooks := .later }
def PlaneArcsUptoCardSaid : Prop := Claim7.holds Tryd.pinned (.plain (OpenSpec.upto planeArcsSpec)) planeArcsUptoCard

/-- THE SECOND FORM's CARD OF 'parterrelaw3.PlaneFields'. -/
def planeFieldsUptoCard : Claim7 := { stood := { row := planeFieldsUptoRow, standIns := [], harness := (true, "7410e794c393cf077dac40b90a923c18b4f9af7b3be8359f99dc6fe40514eab0"), looks := false }, kinds := [], alts := [], laidByText := true, laidKinds := [.data, .data], laidTests := true, laidLooks := .later }
def PlaneFieldsUptoCardSaid : Prop := Claim7.holds Tryd.pinned (.plain (OpenSpec.upto planeFieldsSpec)) planeFieldsUptoCard

/-- THE SECOND FORM's CARD OF 'parterrelaw3.PlanePappus'. -/
def planePappusUptoCard : Claim7 := { stood := { row := planePappusUptoRow, standIns := [], harness := (true, "7410e794c393cf077dac40b90a923c18b4f9af7b3be8359f99dc6fe40514eab0"), looks := false }, kinds := [], alts := [], laidByText := true, laidKinds := [.data, .data], laidTests := true, laidLooks := .later }
def PlanePappusUptoCardSaid : Prop := Claim7.holds Tryd.pinned (.plain (OpenSpec.upto planePappusSpec)) planePappusUptoCard

/-- THE SECOND FORM's CARD OF 'parterrelaw3.PlaneDesargues'. -/
def planeDesarguesUptoCard : Claim7 := { stood := { row := planeDesarguesUptoRow, standIns := [], harness := (true, "7410e794c393cf077dac40b90a923c18b4f9af7b3be8359f99dc6fe40514eab0"), looks := false }, kinds := [], alts := [], laidByText := true, laidKinds := [.data, .data], laidTests := true, laidLooks := .later }
def PlaneDesarguesUptoCardSaid : Prop := Claim7.holds Tryd.pinned (.plain (OpenSpec.upto planeDesarguesSpec)) planeDesarguesUptoCard
end Rows
end Go.Proofs.YtgpkhfpejopacaaDoor
