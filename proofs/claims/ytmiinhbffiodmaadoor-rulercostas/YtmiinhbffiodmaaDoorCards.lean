/-
  DERIVED. GIVEN WITH THE SEED: THE CARDS: each row of YtmiinhbffiodmaaDoorRows.lean that lists a variable, with what it lists TIED to the program's text (the seventh form; the later family's looks); each row that meets fmt, with fmt's text TOLD by the authors' own Lean function (tested against real Go, not proved from fmt's source: count such statements apart). THE CARD IS WHAT COUNTS. Prove the row's statement (the work); the ties are given (YtmiinhbffiodmaaDoorTie.lean); close each card by the builder's one call (the guide's Derived/Test/ToyasCard.lean, 'card_holds'). Laid BY PROGRAM, IN A SANDBOX (cutbox-door.mjs). By AI agents, Wed Nov 11 2026. No macro, syntax, notation, axiom, sorry.
-/
import Derived.Test.YtmiinhbffiodmaaDoorRows
import GoSem.ClaimSeven
namespace Go.Proofs.YtmiinhbffiodmaaDoor
namespace Rows

/-- THE TIED CARD OF 'parterrelaw2.RulerCostas'. -/
def rulerCostasCard : Claim7 := { stood := { row := rulerCostasRow, standIns := [], harness := (true, "10b46c1d80ced8aa0664fea2626b384cbbcd36ce92efeb6987b4c6acf114d1d7"), looks := false }, kinds := [], alts := [], laidByText := true, laidKinds := [.data], laidTests := true, laidLooks := .later }
def RulerCostasCardSaid : Prop := Claim7.holds Tryd.pinned (.plain (OpenSpec.ofChange rulerCostasSpec)) rulerCostasCard

/-- THE TIED CARD OF 'parterrelaw2.RulerWelch'. -/
def rulerWelchCard : Claim7 := { stood := { row := rulerWelchRow, standIns := [], harness := (true, "10b46c1d80ced8aa0664fea2626b384cbbcd36ce92efeb6987b4c6acf114d1d7"), looks := false }, kinds := [], alts := [], laidByText := true, laidKinds := [.data], laidTests := true, laidLooks := .later }
def RulerWelchCardSaid : Prop := Claim7.holds Tryd.pinned (.plain (OpenSpec.ofChange rulerWelchSpec)) rulerWelchCard

/-- THE TIED CARD OF 'parterrelaw2.RulerSidon'. -/
def rulerSidonCard : Claim7 := { stood := { row := rulerSidonRow, standIns := [], harness := (true, "10b46c1d80ced8aa0664fea2626b384cbbcd36ce92efeb6987b4c6acf114d1d7"), looks := false }, kinds := [], alts := [], laidByText := true, laidKinds := [.data], laidTests := true, laidLooks := .later }
def RulerSidonCardSaid : Prop := Claim7.holds Tryd.pinned (.plain (OpenSpec.ofChange rulerSidonSpec)) rulerSidonCard

/-- THE TIED CARD OF 'parterrelaw2.RulerShort'. -/
def rulerShortCard : Claim7 := { stood := { row := rulerShortRow, standIns := [], harness := (true, "10b46c1d80ced8aa0664fea2626b384cbbcd36ce92efeb6987b4c6acf114d1d7"), looks := false }, kinds := [], alts := [], laidByText := true, laidKinds := [.data], laidTests := true, laidLooks := .later }
def RulerShortCardSaid : Prop := Claim7.holds Tryd.pinned (.plain (OpenSpec.ofChange rulerShortSpec)) rulerShortCard

/-- THE SECOND FORM's CARD OF 'parterrelaw2.RulerCostas'. -/
def rulerCostasUptoCard : Claim7 := { stood := { row := rulerCostasUptoRow, standIns := [], harness := (true, "10b46c1d80ced8aa0664fea2626b384cbbcd36ce92efeb6987b4c6acf114d1d7"), looks := false }, kinds := [], alts := [], laidByText := true, laidKinds := [.data], laidTests := true, laidLooks := .later }
def RulerCostasUptoCardSaid : Prop := Claim7.holds Tryd.pinned (.plain (OpenSpec.upto rulerCostasSpec)) rulerCostasUptoCard

/-- THE SECOND FORM's CARD OF 'parterrelaw2.RulerWelch'. -/
def rulerWelchUptoCard : Claim7 := { stood := { row := rulerWelchUptoRow, standIns := [], harness := (true, "10b46c1d80ced8aa0664fea2626b384cbbcd36ce92efeb6987b4c6acf114d1d7"), looks := false }, kinds := [], alts := [], laidByText := true, laidKinds := [.data], laidTests := true, laidLooks := .later }
def RulerWelchUptoCardSaid : Prop := Claim7.holds Tryd.pinned (.plain (OpenSpec.upto rulerWelchSpec)) rulerWelchUptoCard

/-- THE SECOND FORM's CARD OF 'parterrelaw2.RulerSidon'. -/
def rulerSidonUptoCard : Claim7 := { stood := { row := rulerSidonUptoRow, standIns := [], harness := (true, "10b46c1d80ced8aa0664fea2626b384cbbcd36ce92efeb6987b4c6acf114d1d7"), looks := false }, kinds := [], alts := [], laidByText := true, laidKinds := [.data], laidTests := true, laidLooks := .later }
def RulerSidonUptoCardSaid : Prop := Claim7.holds Tryd.pinned (.plain (OpenSpec.upto rulerSidonSpec)) rulerSidonUptoCard

/-- THE SECOND FORM's CARD OF 'parterrelaw2.RulerShort'. -/
def rulerShortUptoCard : Claim7 := { stood := { row := rulerShortUptoRow, standIns := [], harness := (true, "10b46c1d80ced8aa0664fea2626b384cbbcd36ce92efeb6987b4c6acf114d1d7"), looks := false }, kinds := [], alts := [], laidByText := true, laidKinds := [.data], laidTests := true, laidLooks := .later }
def RulerShortUptoCardSaid : Prop := Claim7.holds Tryd.pinned (.plain (OpenSpec.upto rulerShortSpec)) rulerShortUptoCard
end Rows
end Go.Proofs.YtmiinhbffiodmaaDoor
