/-
  DERIVED. GIVEN WITH THE SEED: THE CARDS: each row of YtioggiapkkeloaaDoorRows.lean that lists a variable, with what it lists TIED to the program's text (the seventh form; the later family's looks); each row that meets fmt, with fmt's text TOLD by the authors' own Lean function (tested against real Go, not proved from fmt's source: count such statements apart). THE CARD IS WHAT COUNTS. Prove the row's statement (the work); the ties are given (YtioggiapkkeloaaDoorTie.lean); close each card by the builder's one call (the guide's Derived/Test/ToyasCard.lean, 'card_holds'). Laid BY PROGRAM, IN A SANDBOX (cutbox-door.mjs). By AI agents, Wed Nov 11 2026. No macro, syntax, notation, axiom, sorry.
-/
import Derived.Test.YtioggiapkkeloaaDoorRows
import GoSem.ClaimSeven
namespace Go.Proofs.YtioggiapkkeloaaDoor
namespace Rows

/-- THE TIED CARD OF 'parterrelaw3.BooleTables'. -/
def booleTablesCard : Claim7 := { stood := { row := booleTablesRow, standIns := [], harness := (true, "305b937583da04a5149ec42ee307781b02ee849ce3ebba181a8e7523c442c886"), looks := false }, kinds := [], alts := [], laidByText := true, laidKinds := [.data, .data], laidTests := true, laidLooks := .later }
def BooleTablesCardSaid : Prop := Claim7.holds Tryd.pinned (.plain (OpenSpec.ofChange booleTablesSpec)) booleTablesCard

/-- THE TIED CARD OF 'parterrelaw3.BooleAsks'. -/
def booleAsksCard : Claim7 := { stood := { row := booleAsksRow, standIns := [], harness := (true, "305b937583da04a5149ec42ee307781b02ee849ce3ebba181a8e7523c442c886"), looks := false }, kinds := [], alts := [], laidByText := true, laidKinds := [.data, .data], laidTests := true, laidLooks := .later }
def BooleAsksCardSaid : Prop := Claim7.holds Tryd.pinned (.plain (OpenSpec.ofChange booleAsksSpec)) booleAsksCard

/-- THE TIED CARD OF 'parterrelaw3.BooleTwice'. -/
def booleTwiceCard : Claim7 := { stood := { row := booleTwiceRow, standIns := [], harness := (true, "305b937583da04a5149ec42ee307781b02ee849ce3ebba181a8e7523c442c886"), looks := false }, kinds := [], alts := [], laidByText := true, laidKinds := [.data, .data], laidTests := true, laidLooks := .later }
def BooleTwiceCardSaid : Prop := Claim7.holds Tryd.pinned (.plain (OpenSpec.ofChange booleTwiceSpec)) booleTwiceCard

/-- THE TIED CARD OF 'parterrelaw3.BooleParseval'. -/
def booleParsevalCard : Claim7 := { stood := { row := booleParsevalRow, standIns := [], harness := (true, "305b937583da04a5149ec42ee307781b02ee849ce3ebba181a8e7523c442c886"), looks := false }, kinds := [], alts := [], laidByText := true, laidKinds := [.data, .data], laidTests := true, laidLooks := .later }
def BooleParsevalCardSaid : Prop := Claim7.holds Tryd.pinned (.plain (OpenSpec.ofChange booleParsevalSpec)) booleParsevalCard

/-- THE TIED CARD OF 'parterrelaw3.BooleRothaus'. -/
def booleRothausCard : Claim7 := { stood := { row := booleRothausRow, standIns := [], harness := (true, "305b937583da04a5149ec42ee307781b02ee849ce3ebba181a8e7523c442c886"), looks := false }, kinds := [], alts := [], laidByText := true, laidKinds := [.data, .data], laidTests := true, laidLooks := .later }
def BooleRothausCardSaid : Prop := Claim7.holds Tryd.pinned (.plain (OpenSpec.ofChange booleRothausSpec)) booleRothausCard

/-- THE TIED CARD OF 'parterrelaw3.BooleSiegenthaler'. -/
def booleSiegenthalerCard : Claim7 := { stood := { row := booleSiegenthalerRow, standIns := [], harness := (true, "305b937583da04a5149ec42ee307781b02ee849ce3ebba181a8e7523c442c886"), looks := false }, kinds := [], alts := [], laidByText := true, laidKinds := [.data, .data], laidTests := true, laidLooks := .later }
def BooleSiegenthalerCardSaid : Prop := Claim7.holds Tryd.pinned (.plain (OpenSpec.ofChange booleSiegenthalerSpec)) booleSiegenthalerCard

/-- THE SECOND FORM's CARD OF 'parterrelaw3.BooleTables'. -/
def booleTablesUptoCard : Claim7 := { stood := { row := booleTablesUptoRow, standIns := [], harness := (true, "305b937583da04a5149ec42ee307781b02ee849ce3ebba181a8e7523c442c886"), looks := false }, kinds := [], alts := [], laidByText := true, laidKinds := [.data, .data], laidTests := true, laidLooks := .later }
def BooleTablesUptoCardSaid : Prop := Claim7.holds Tryd.pinned (.plain (OpenSpec.upto booleTablesSpec)) booleTablesUptoCard

/-- THE SECOND FORM's CARD OF 'parterrelaw3.BooleAsks'. -/
def booleAsksUptoCard : Claim7 := { stood := { row := booleAsksUptoRow, standIns := [], harness := (true, "305b937583da04a5149ec42ee307781b02ee849ce3ebba181a8e7523c442c886"), looks := false }, kinds := [], alts := [], laidByText := true, laidKinds := [.data, .data], laidTests := true, laidLooks := .later }
def BooleAsksUptoCardSaid : Prop := Claim7.holds Tryd.pinned (.plain (OpenSpec.upto booleAsksSpec)) booleAsksUptoCard

/-- THE SECOND FORM's CARD OF 'parterrelaw3.BooleTwice'. -/
def booleTwiceUptoCard : Claim7 := { stood := { row := booleTwiceUptoRow, standIns := [], harness := (true, "305b937583da04a5149ec42ee307781b02ee849ce3ebba181a8e7523c442c886"), looks := false }, kinds := [], alts := [], laidByText := true, laidKinds := [.data, .data], laidTests := true, laidLooks := .later }
def BooleTwiceUptoCardSaid : Prop := Claim7.holds Tryd.pinned (.plain (OpenSpec.upto booleTwiceSpec)) booleTwiceUptoCard

/-- THE SECOND FORM's CARD OF 'parterrelaw3.BooleParseval'. -/
def booleParsevalUptoCard : Claim7 := { stood := { row := booleParsevalUptoRow, standIns := [], harness := (true, "305b937583da04a5149ec42ee307781b02ee849ce3ebba181a8e7523c442c886"), looks := false }, kinds := [], alts := [], laidByText := true, laidKinds := [.data, .data], laidTests := true, laidLooks := .later }
def BooleParsevalUptoCardSaid : Prop := Claim7.holds Tryd.pinned (.plain (OpenSpec.upto booleParsevalSpec)) booleParsevalUptoCard

/-- THE SECOND FORM's CARD OF 'parterrelaw3.BooleRothaus'. -/
def booleRothausUptoCard : Claim7 := { stood := { row := booleRothausUptoRow, standIns := [], harness := (true, "305b937583da04a5149ec42ee307781b02ee849ce3ebba181a8e7523c442c886"), looks := false }, kinds := [], alts := [], laidByText := true, laidKinds := [.data, .data], laidTests := true, laidLooks := .later }
def BooleRothausUptoCardSaid : Prop := Claim7.holds Tryd.pinned (.plain (OpenSpec.upto booleRothausSpec)) booleRothausUptoCard

/-- THE SECOND FORM's CARD OF 'parterrelaw3.BooleSiegenthaler'. -/
def booleSiegenthalerUptoCard : Claim7 := { stood := { row := booleSiegenthalerUptoRow, standIns := [], harness := (true, "305b937583da04a5149ec42ee307781b02ee849ce3ebba181a8e7523c442c886"), looks := false }, kinds := [], alts := [], laidByText := true, laidKinds := [.data, .data], laidTests := true, laidLooks := .later }
def BooleSiegenthalerUptoCardSaid : Prop := Claim7.holds Tryd.pinned (.plain (OpenSpec.upto booleSiegenthalerSpec)) booleSiegenthalerUptoCard
end Rows
end Go.Proofs.YtioggiapkkeloaaDoor
