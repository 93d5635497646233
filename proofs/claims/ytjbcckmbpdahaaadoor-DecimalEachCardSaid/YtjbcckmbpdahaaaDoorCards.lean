/-
  DERIVED. GIVEN WITH THE SEED: THE CARDS: each row of YtjbcckmbpdahaaaDoorRows.lean that lists a variable, with what it lists TIED to the program's text (the seventh form; the later family's looks); each row that meets fmt, with fmt's text TOLD by the authors' own Lean function (tested against real Go, not proved from fmt's source: count such statements apart). THE CARD IS WHAT COUNTS. Prove the row's statement (the work); the ties are given (YtjbcckmbpdahaaaDoorTie.lean); close each card by the builder's one call (the guide's Derived/Test/ToyasCard.lean, 'card_holds'). Laid BY PROGRAM, IN A SANDBOX (cutbox-door.mjs). By AI agents, Wed Nov 11 2026. No macro, syntax, notation, axiom, sorry.
-/
import Derived.Test.YtjbcckmbpdahaaaDoorRows
import GoSem.ClaimSeven
namespace Go.Proofs.YtjbcckmbpdahaaaDoor
namespace Rows

/-- THE TIED CARD OF 'bellmanlaw01.DecimalSums'. -/
def decimalSumsCard : Claim7 := { stood := { row := decimalSumsRow, standIns := [], harness := (true, "b54acd55230285d235fe1cc2a294f7b77592e8f113d04c901e9929f96c7fc97d"), looks := false }, kinds := [], alts := [], laidByText := true, laidKinds := [.data], laidTests := true, laidLooks := .later }
def DecimalSumsCardSaid : Prop := Claim7.holds Tryd.pinned (.plain (OpenSpec.ofChange decimalSumsSpec)) decimalSumsCard

/-- THE TIED CARD OF 'bellmanlaw01.DecimalTexts'. -/
def decimalTextsCard : Claim7 := { stood := { row := decimalTextsRow, standIns := [], harness := (true, "b54acd55230285d235fe1cc2a294f7b77592e8f113d04c901e9929f96c7fc97d"), looks := false }, kinds := [], alts := [], laidByText := true, laidKinds := [.data, .data, .pinned, .pinned], laidTests := true, laidLooks := .later }
def DecimalTextsCardSaid : Prop := Claim7.holds Tryd.pinned (.plain (OpenSpec.ofChange decimalTextsSpec)) decimalTextsCard

/-- THE TIED CARD OF 'bellmanlaw01.DecimalParses'. -/
def decimalParsesCard : Claim7 := { stood := { row := decimalParsesRow, standIns := [], harness := (true, "b54acd55230285d235fe1cc2a294f7b77592e8f113d04c901e9929f96c7fc97d"), looks := false }, kinds := [], alts := [], laidByText := true, laidKinds := [.data], laidTests := true, laidLooks := .later }
def DecimalParsesCardSaid : Prop := Claim7.holds Tryd.pinned (.plain (OpenSpec.ofChange decimalParsesSpec)) decimalParsesCard

/-- THE TIED CARD OF 'bellmanlaw01.DecimalEach'. -/
def decimalEachCard : Claim7 := { stood := { row := decimalEachRow, standIns := [], harness := (true, "b54acd55230285d235fe1cc2a294f7b77592e8f113d04c901e9929f96c7fc97d"), looks := false }, kinds := [], alts := [], laidByText := true, laidKinds := [.data], laidTests := true, laidLooks := .later }
def DecimalEachCardSaid : Prop := Claim7.holds Tryd.pinned (.plain (OpenSpec.ofChange decimalEachSpec)) decimalEachCard

/-- THE TIED CARD OF 'bellmanlaw01.DecimalHolds'. -/
def decimalHoldsCard : Claim7 := { stood := { row := decimalHoldsRow, standIns := [], harness := (true, "b54acd55230285d235fe1cc2a294f7b77592e8f113d04c901e9929f96c7fc97d"), looks := false }, kinds := [], alts := [], laidByText := true, laidKinds := [.data], laidTests := true, laidLooks := .later }
def DecimalHoldsCardSaid : Prop := Claim7.holds Tryd.pinned (.plain (OpenSpec.ofChange decimalHoldsSpec)) decimalHoldsCard

/-- THE SECOND FORM's CARD OF 'bellmanlaw01.DecimalSums'. -/
def decimalSumsUptoCard : Claim7 := { stood := { row := decimalSumsUptoRow, standIns := [], harness := (true, "b54acd55230285d235fe1cc2a294f7b77592e8f113d04c901e9929f96c7fc97d"), looks := false }, kinds := [], alts := [], laidByText := true, laidKinds := [.data], laidTests := true, laidLooks := .later }
def DecimalSumsUptoCardSaid : Prop := Claim7.holds Tryd.pinned (.plain (OpenSpec.upto decimalSumsSpec)) decimalSumsUptoCard

/-- THE SECOND FORM's CARD OF 'bellmanlaw01.DecimalTexts'. -/
def decimalTextsUptoCard : Claim7 := { stood := { row := decimalTextsUptoRow, standIns := [], harness := (true, "b54acd55230285d235fe1cc2a294f7b77592e8f113d04c901e9929f96c7fc97d"), looks := false }, kinds := [], alts := [], laidByText := true, laidKinds := [.data, .data, .pinned, .pinned], laidTests := true, laidLooks := .later }
def DecimalTextsUptoCardSaid : Prop := Claim7.holds Tryd.pinned (.plain (OpenSpec.upto decimalTextsSpec)) decimalTextsUptoCard

/-- THE SECOND FORM's CARD OF 'bellmanlaw01.DecimalParses'. -/
def decimalParsesUptoCard : Claim7 := { stood := { row := decimalParsesUptoRow, standIns := [], harness := (true, "b54acd55230285d235fe1cc2a294f7b77592e8f113d04c901e9929f96c7fc97d"), looks := false }, kinds := [], alts := [], laidByText := true, laidKinds := [.data], laidTests := true, laidLooks := .later }
def DecimalParsesUptoCardSaid : Prop := Claim7.holds Tryd.pinned (.plain (OpenSpec.upto decimalParsesSpec)) decimalParsesUptoCard

/-- THE SECOND FORM's CARD OF 'bellmanlaw01.DecimalEach'. -/
def decimalEachUptoCard : Claim7 := { stood := { row := decimalEachUptoRow, standIns := [], harness := (true, "b54acd55230285d235fe1cc2a294f7b77592e8f113d04c901e9929f96c7fc97d"), looks := false }, kinds := [], alts := [], laidByText := true, laidKinds := [.data], laidTests := true, laidLooks := .later }
def DecimalEachUptoCardSaid : Prop := Claim7.holds Tryd.pinned (.plain (OpenSpec.upto decimalEachSpec)) decimalEachUptoCard

/-- THE SECOND FORM's CARD OF 'bellmanlaw01.DecimalHolds'. -/
def decimalHoldsUptoCard : Claim7 := { stood := { row := decimalHoldsUptoRow, standIns := [], harness := (true, "b54acd55230285d235fe1cc2a294f7b77592e8f113d04c901e9929f96c7fc97d"), looks := false }, kinds := [], alts := [], laidByText := true, laidKinds := [.data], laidTests := true, laidLooks := .later }
def DecimalHoldsUptoCardSaid : Prop := Claim7.holds Tryd.pinned (.plain (OpenSpec.upto decimalHoldsSpec)) decimalHoldsUptoCard
end Rows
end Go.Proofs.YtjbcckmbpdahaaaDoor
