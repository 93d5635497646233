/-
  DERIVED. GIVEN WITH THE SEED: THE CARDS: each row of YtlbiniibkbhghaaDoorRows.lean that lists a variable, with what it lists TIED to the program's text (the seventh form; the later family's looks); each row that meets fmt, with fmt's text TOLD by the authors' own Lean function (tested against real Go, not proved from fmt's source: count such statements apart). THE CARD IS WHAT COUNTS. Prove the row's statement (the work); the ties are given (YtlbiniibkbhghaaDoorTie.lean); close each card by the builder's one call (the guide's Derived/Test/ToyasCard.lean, 'card_holds'). Laid BY PROGRAM, IN A SANDBOX (cutbox-door.mjs). By AI agents, Wed Nov 11 2026. No macro, syntax, notation, axiom, sorry.
-/
import Derived.Test.YtlbiniibkbhghaaDoorRows
import GoSem.ClaimSeven
namespace Go.Proofs.YtlbiniibkbhghaaDoor
namespace Rows

/-- THE TIED CARD OF 'bellmanlaw01.DecimalTexts'. -/
def decimalTextsCard : Claim7 := { stood := { row := decimalTextsRow, standIns := [], harness := (true, "62ececb6491a34a8af1ed2a38a432e755fa20bcf2a7c6bd715412cee4512f4e9"), looks := true }, kinds := [], alts := [], laidByText := true, laidKinds := [.data, .data, .pinned, .pinned], laidTests := true, laidLooks := .later }
def DecimalTextsCardSaid : Prop := Claim7.holds Tryd.pinned (.plain (OpenSpec.ofChange decimalTextsSpec)) decimalTextsCard

/-- THE TIED CARD OF 'bellmanlaw01.DecimalParses'. -/
def decimalParsesCard : Claim7 := { stood := { row := decimalParsesRow, standIns := [], harness := (true, "62ececb6491a34a8af1ed2a38a432e755fa20bcf2a7c6bd715412cee4512f4e9"), looks := true }, kinds := [], alts := [], laidByText := true, laidKinds := [.data], laidTests := true, laidLooks := .later }
def DecimalParsesCardSaid : Prop := Claim7.holds Tryd.pinned (.plain (OpenSpec.ofChange decimalParsesSpec)) decimalParsesCard

/-- THE TIED CARD OF 'bellmanlaw04.UtfOf'. -/
def utfOfCard : Claim7 := { stood := { row := utfOfRow, standIns := [], harness := (true, "62ececb6491a34a8af1ed2a38a432e755fa20bcf2a7c6bd715412cee4512f4e9"), looks := true }, kinds := [], alts := [], laidByText := true, laidKinds := [.data], laidTests := true, laidLooks := .later }
def UtfOfCardSaid : Prop := Claim7.holds Tryd.pinned (.plain (OpenSpec.ofChange utfOfSpec)) utfOfCard

/-- THE TIED CARD OF 'bellmanlaw06.FieldOf'. -/
def fieldOfCard : Claim7 := { stood := { row := fieldOfRow, standIns := [], harness := (true, "62ececb6491a34a8af1ed2a38a432e755fa20bcf2a7c6bd715412cee4512f4e9"), looks := true }, kinds := [], alts := [], laidByText := true, laidKinds := [.data, .data], laidTests := true, laidLooks := .later }
def FieldOfCardSaid : Prop := Claim7.holds Tryd.pinned (.plain (OpenSpec.ofChange fieldOfSpec)) fieldOfCard

/-- THE TIED CARD OF 'bellmanlaw06.FieldLine'. -/
def fieldLineCard : Claim7 := { stood := { row := fieldLineRow, standIns := [], harness := (true, "62ececb6491a34a8af1ed2a38a432e755fa20bcf2a7c6bd715412cee4512f4e9"), looks := true }, kinds := [], alts := [], laidByText := true, laidKinds := [.data, .data], laidTests := true, laidLooks := .later }
def FieldLineCardSaid : Prop := Claim7.holds Tryd.pinned (.plain (OpenSpec.ofChange fieldLineSpec)) fieldLineCard

/-- THE TIED CARD OF 'bellmanlaw07.EventBounds'. -/
def eventBoundsCard : Claim7 := { stood := { row := eventBoundsRow, standIns := [], harness := (true, "62ececb6491a34a8af1ed2a38a432e755fa20bcf2a7c6bd715412cee4512f4e9"), looks := true }, kinds := [], alts := [], laidByText := true, laidKinds := [.data, .data, .data, .data, .data, .pinned], laidTests := true, laidLooks := .later }
def EventBoundsCardSaid : Prop := Claim7.holds Tryd.pinned (.plain (OpenSpec.ofChange eventBoundsSpec)) eventBoundsCard

/-- THE SECOND FORM's CARD OF 'bellmanlaw01.DecimalTexts'. -/
def decimalTextsUptoCard : Claim7 := { stood := { row := decimalTextsUptoRow, standIns := [], harness := (true, "62ececb6491a34a8af1ed2a38a432e755fa20bcf2a7c6bd715412cee4512f4e9"), looks := true }, kinds := [], alts := [], laidByText := true, laidKinds := [.data, .data, .pinned, .pinned], laidTests := true, laidLooks := .later }
def DecimalTextsUptoCardSaid : Prop := Claim7.holds Tryd.pinned (.plain (OpenSpec.upto decimalTextsSpec)) decimalTextsUptoCard

/-- THE SECOND FORM's CARD OF 'bellmanlaw01.DecimalParses'. -/
def decimalParsesUptoCard : Claim7 := { stood := { row := decimalParsesUptoRow, standIns := [], harness := (true, "62ececb6491a34a8af1ed2a38a432e755fa20bcf2a7c6bd715412cee4512f4e9"), looks := true }, kinds := [], alts := [], laidByText := true, laidKinds := [.data], laidTests := true, laidLooks := .later }
def DecimalParsesUptoCardSaid : Prop := Claim7.holds Tryd.pinned (.plain (OpenSpec.upto decimalParsesSpec)) decimalParsesUptoCard

/-- THE SECOND FORM's CARD OF 'bellmanlaw04.UtfOf'. -/
def utfOfUptoCard : Claim7 := { stood := { row := utfOfUptoRow, standIns := [], harness := (true, "62ececb6491a34a8af1ed2a38a432e755fa20bcf2a7c6bd715412cee4512f4e9"), looks := true }, kinds := [], alts := [], laidByText := true, laidKinds := [.data], laidTests := true, laidLooks := .later }
def UtfOfUptoCardSaid : Prop := Claim7.holds Tryd.pinned (.plain (OpenSpec.upto utfOfSpec)) utfOfUptoCard

/-- THE SECOND FORM's CARD OF 'bellmanlaw06.FieldOf'. -/
def fieldOfUptoCard : Claim7 := { stood := { row := fieldOfUptoRow, standIns := [], harness := (true, "62ececb6491a34a8af1ed2a38a432e755fa20bcf2a7c6bd715412cee4512f4e9"), looks := true }, kinds := [], alts := [], laidByText := true, laidKinds := [.data, .data], laidTests := true, laidLooks := .later }
def FieldOfUptoCardSaid : Prop := Claim7.holds Tryd.pinned (.plain (OpenSpec.upto fieldOfSpec)) fieldOfUptoCard

/-- THE SECOND FORM's CARD OF 'bellmanlaw06.FieldLine'. -/
def fieldLineUptoCard : Claim7 := { stood := { row := fieldLineUptoRow, standIns := [], harness := (true, "62ececb6491a34a8af1ed2a38a432e755fa20bcf2a7c6bd715412cee4512f4e9"), looks := true }, kinds := [], alts := [], laidByText := true, laidKinds := [.data, .data], laidTests := true, laidLooks := .later }
def FieldLineUptoCardSaid : Prop := Claim7.holds Tryd.pinned (.plain (OpenSpec.upto fieldLineSpec)) fieldLineUptoCard

/-- THE SECOND FORM's CARD OF 'bellmanlaw07.EventBounds'. -/
def eventBoundsUptoCard : Claim7 := { stood := { row := eventBoundsUptoRow, standIns := [], harness := (true, "62ececb6491a34a8af1ed2a38a432e755fa20bcf2a7c6bd715412cee4512f4e9"), looks := true }, kinds := [], alts := [], laidByText := true, laidKinds := [.data, .data, .data, .data, .data, .pinned], laidTests := true, laidLooks := .later }
def EventBoundsUptoCardSaid : Prop := Claim7.holds Tryd.pinned (.plain (OpenSpec.upto eventBoundsSpec)) eventBoundsUptoCard
end Rows
end Go.Proofs.YtlbiniibkbhghaaDoor
