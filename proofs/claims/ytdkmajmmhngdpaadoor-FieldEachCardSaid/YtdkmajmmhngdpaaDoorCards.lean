/-
  DERIVED. GIVEN WITH THE SEED: THE CARDS: each row of YtdkmajmmhngdpaaDoorRows.lean that lists a variable, with what it lists TIED to the program's text (the seventh form; the later family's looks); each row that meets fmt, with fmt's text TOLD by the authors' own Lean function (tested against real Go, not proved from fmt's source: count such statements apart). THE CARD IS WHAT COUNTS. Prove the row's statement (the work); the ties are given (YtdkmajmmhngdpaaDoorTie.lean); close each card by the builder's one call (the guide's Derived/Test/ToyasCard.lean, 'card_holds'). Laid BY PROGRAM, IN A SANDBOX (cutbox-door.mjs). By AI agents, Wed Nov 11 2026. No macro, syntax, notation, axiom, sorry.
-/
import Derived.Test.YtdkmajmmhngdpaaDoorRows
import GoSem.ClaimSeven
namespace Go.Proofs.YtdkmajmmhngdpaaDoor
namespace Rows

/-- THE TIED CARD OF 'bellmanlaw01.DecimalTexts'. -/
def decimalTextsCard : Claim7 := { stood := { row := decimalTextsRow, standIns := [], harness := (true, "248eabc2d68f6372fa35e9e9bfd629bf1eb7dd1b6efab677f31bfe620b0e9677"), looks := false }, kinds := [], alts := [], laidByText := true, laidKinds := [.data, .data, .pinned, .pinned], laidTests := true, laidLooks := .later }
def DecimalTextsCardSaid : Prop := Claim7.holds Tryd.pinned (.plain (OpenSpec.ofChange decimalTextsSpec)) decimalTextsCard

/-- THE TIED CARD OF 'bellmanlaw01.DecimalParses'. -/
def decimalParsesCard : Claim7 := { stood := { row := decimalParsesRow, standIns := [], harness := (true, "248eabc2d68f6372fa35e9e9bfd629bf1eb7dd1b6efab677f31bfe620b0e9677"), looks := false }, kinds := [], alts := [], laidByText := true, laidKinds := [.data], laidTests := true, laidLooks := .later }
def DecimalParsesCardSaid : Prop := Claim7.holds Tryd.pinned (.plain (OpenSpec.ofChange decimalParsesSpec)) decimalParsesCard

/-- THE TIED CARD OF 'bellmanlaw06.FieldOf'. -/
def fieldOfCard : Claim7 := { stood := { row := fieldOfRow, standIns := [], harness := (true, "248eabc2d68f6372fa35e9e9bfd629bf1eb7dd1b6efab677f31bfe620b0e9677"), looks := false }, kinds := [], alts := [], laidByText := true, laidKinds := [.data, .data], laidTests := true, laidLooks := .later }
def FieldOfCardSaid : Prop := Claim7.holds Tryd.pinned (.plain (OpenSpec.ofChange fieldOfSpec)) fieldOfCard

/-- THE TIED CARD OF 'bellmanlaw06.FieldLine'. -/
def fieldLineCard : Claim7 := { stood := { row := fieldLineRow, standIns := [], harness := (true, "248eabc2d68f6372fa35e9e9bfd629bf1eb7dd1b6efab677f31bfe620b0e9677"), looks := false }, kinds := [], alts := [], laidByText := true, laidKinds := [.data, .data], laidTests := true, laidLooks := .later }
def FieldLineCardSaid : Prop := Claim7.holds Tryd.pinned (.plain (OpenSpec.ofChange fieldLineSpec)) fieldLineCard

/-- THE TIED CARD OF 'bellmanlaw06.FieldEach'. -/
def fieldEachCard : Claim7 := { stood := { row := fieldEachRow, standIns := [], harness := (true, "248eabc2d68f6372fa35e9e9bfd629bf1eb7dd1b6efab677f31bfe620b0e9677"), looks := false }, kinds := [], alts := [], laidByText := true, laidKinds := [.data, .data], laidTests := true, laidLooks := .later }
def FieldEachCardSaid : Prop := Claim7.holds Tryd.pinned (.plain (OpenSpec.ofChange fieldEachSpec)) fieldEachCard

/-- THE TIED CARD OF 'bellmanlaw06.FieldHolds'. -/
def fieldHoldsCard : Claim7 := { stood := { row := fieldHoldsRow, standIns := [], harness := (true, "248eabc2d68f6372fa35e9e9bfd629bf1eb7dd1b6efab677f31bfe620b0e9677"), looks := false }, kinds := [], alts := [], laidByText := true, laidKinds := [.data, .data], laidTests := true, laidLooks := .later }
def FieldHoldsCardSaid : Prop := Claim7.holds Tryd.pinned (.plain (OpenSpec.ofChange fieldHoldsSpec)) fieldHoldsCard

/-- THE SECOND FORM's CARD OF 'bellmanlaw01.DecimalTexts'. -/
def decimalTextsUptoCard : Claim7 := { stood := { row := decimalTextsUptoRow, standIns := [], harness := (true, "248eabc2d68f6372fa35e9e9bfd629bf1eb7dd1b6efab677f31bfe620b0e9677"), looks := false }, kinds := [], alts := [], laidByText := true, laidKinds := [.data, .data, .pinned, .pinned], laidTests := true, laidLooks := .later }
def DecimalTextsUptoCardSaid : Prop := Claim7.holds Tryd.pinned (.plain (OpenSpec.upto decimalTextsSpec)) decimalTextsUptoCard

/-- THE SECOND FORM's CARD OF 'bellmanlaw01.DecimalParses'. -/
def decimalParsesUptoCard : Claim7 := { stood := { row := decimalParsesUptoRow, standIns := [], harness := (true, "248eabc2d68f6372fa35e9e9bfd629bf1eb7dd1b6efab677f31bfe620b0e9677"), looks := false }, kinds := [], alts := [], laidByText := true, laidKinds := [.data], laidTests := true, laidLooks := .later }
def DecimalParsesUptoCardSaid : Prop := Claim7.holds Tryd.pinned (.plain (OpenSpec.upto decimalParsesSpec)) decimalParsesUptoCard

/-- THE SECOND FORM's CARD OF 'bellmanlaw06.FieldOf'. -/
def fieldOfUptoCard : Claim7 := { stood := { row := fieldOfUptoRow, standIns := [], harness := (true, "248eabc2d68f6372fa35e9e9bfd629bf1eb7dd1b6efab677f31bfe620b0e9677"), looks := false }, kinds := [], alts := [], laidByText := true, laidKinds := [.data, .data], laidTests := true, laidLooks := .later }
def FieldOfUptoCardSaid : Prop := Claim7.holds Tryd.pinned (.plain (OpenSpec.upto fieldOfSpec)) fieldOfUptoCard

/-- THE SECOND FORM's CARD OF 'bellmanlaw06.FieldLine'. -/
def fieldLineUptoCard : Claim7 := { stood := { row := fieldLineUptoRow, standIns := [], harness := (true, "248eabc2d68f6372fa35e9e9bfd629bf1eb7dd1b6efab677f31bfe620b0e9677"), looks := false }, kinds := [], alts := [], laidByText := true, laidKinds := [.data, .data], laidTests := true, laidLooks := .later }
def FieldLineUptoCardSaid : Prop := Claim7.holds Tryd.pinned (.plain (OpenSpec.upto fieldLineSpec)) fieldLineUptoCard

/-- THE SECOND FORM's CARD OF 'bellmanlaw06.FieldEach'. -/
def fieldEachUptoCard : Claim7 := { stood := { row := fieldEachUptoRow, standIns := [], harness := (true, "248eabc2d68f6372fa35e9e9bfd629bf1eb7dd1b6efab677f31bfe620b0e9677"), looks := false }, kinds := [], alts := [], laidByText := true, laidKinds := [.data, .data], laidTests := true, laidLooks := .later }
def FieldEachUptoCardSaid : Prop := Claim7.holds Tryd.pinned (.plain (OpenSpec.upto fieldEachSpec)) fieldEachUptoCard

/-- THE SECOND FORM's CARD OF 'bellmanlaw06.FieldHolds'. -/
def fieldHoldsUptoCard : Claim7 := { stood := { row := fieldHoldsUptoRow, standIns := [], harness := (true, "248eabc2d68f6372fa35e9e9bfd629bf1eb7dd1b6efab677f31bfe620b0e9677"), looks := false }, kinds := [], alts := [], laidByText := true, laidKinds := [.data, .data], laidTests := true, laidLooks := .later }
def FieldHoldsUptoCardSaid : Prop := Claim7.holds Tryd.pinned (.plain (OpenSpec.upto fieldHoldsSpec)) fieldHoldsUptoCard
end Rows
end Go.Proofs.YtdkmajmmhngdpaaDoor
