/-
  DERIVED. GIVEN WITH THE SEED: THE CARDS: each row of YtlbiniibkbhghaaGreatDoorRows.lean that lists a variable, with what it lists TIED to the program's text (the seventh form; the later family's looks); each row that meets fmt, with fmt's text TOLD by the authors' own Lean function (tested against real Go, not proved from fmt's source: count such statements apart). THE CARD IS WHAT COUNTS. Prove the row's statement (the work); the ties are given (YtlbiniibkbhghaaGreatDoorTie.lean); close each card by the builder's one call (the guide's Derived/Test/ToyasCard.lean, 'card_holds'). Laid BY PROGRAM, IN A SANDBOX (cutbox-door.mjs). By AI agents, Wed Nov 11 2026. No macro, syntax, notation, axiom, sorry.
-/
import Derived.Test.YtlbiniibkbhghaaGreatDoorRows
import GoSem.ClaimSeven
namespace Go.Proofs.YtlbiniibkbhghaaGreatDoor
namespace Rows

/-- THE TIED CARD OF 'bellmanlaw07.EventEncodes'. -/
def eventEncodesCard : Claim7 := { stood := { row := eventEncodesRow, standIns := [], harness := (true, "14ba13bd5f95e00b09bf4c1d66678f92482a20b927a3b80edc33f939cadecda2"), looks := true }, kinds := [], alts := [], laidByText := true, laidKinds := [.data, .data, .data, .data, .data, .pinned], laidTests := true, laidLooks := .later }
def EventEncodesCardSaid : Prop := Claim7.holds Tryz.pinned (.plain (OpenSpec.ofChange eventEncodesSpec)) eventEncodesCard

/-- THE TIED CARD OF 'bellmanlaw07.EventLines'. -/
def eventLinesCard : Claim7 := { stood := { row := eventLinesRow, standIns := [], harness := (true, "14ba13bd5f95e00b09bf4c1d66678f92482a20b927a3b80edc33f939cadecda2"), looks := true }, kinds := [], alts := [], laidByText := true, laidKinds := [.data, .data, .data, .data, .data, .pinned], laidTests := true, laidLooks := .later }
def EventLinesCardSaid : Prop := Claim7.holds Tryz.pinned (.plain (OpenSpec.ofChange eventLinesSpec)) eventLinesCard

/-- THE TIED CARD OF 'bellmanlaw07.EventResets'. -/
def eventResetsCard : Claim7 := { stood := { row := eventResetsRow, standIns := [], harness := (true, "14ba13bd5f95e00b09bf4c1d66678f92482a20b927a3b80edc33f939cadecda2"), looks := true }, kinds := [], alts := [], laidByText := true, laidKinds := [.data, .data, .data, .data, .data, .pinned], laidTests := true, laidLooks := .later }
def EventResetsCardSaid : Prop := Claim7.holds Tryz.pinned (.plain (OpenSpec.ofChange eventResetsSpec)) eventResetsCard

/-- THE TIED CARD OF 'bellmanlaw07.EventHolds'. -/
def eventHoldsCard : Claim7 := { stood := { row := eventHoldsRow, standIns := [], harness := (true, "14ba13bd5f95e00b09bf4c1d66678f92482a20b927a3b80edc33f939cadecda2"), looks := true }, kinds := [], alts := [], laidByText := true, laidKinds := [.data, .data, .data, .data, .data, .pinned], laidTests := true, laidLooks := .later }
def EventHoldsCardSaid : Prop := Claim7.holds Tryz.pinned (.plain (OpenSpec.ofChange eventHoldsSpec)) eventHoldsCard

/-- THE SECOND FORM's CARD OF 'bellmanlaw07.EventEncodes'. -/
def eventEncodesUptoCard : Claim7 := { stood := { row := eventEncodesUptoRow, standIns := [], harness := (true, "14ba13bd5f95e00b09bf4c1d66678f92482a20b927a3b80edc33f939cadecda2"), looks := true }, kinds := [], alts := [], laidByText := true, laidKinds := [.data, .data, .data, .data, .data, .pinned], laidTests := true, laidLooks := .later }
def EventEncodesUptoCardSaid : Prop := Claim7.holds Tryz.pinned (.plain (OpenSpec.upto eventEncodesSpec)) eventEncodesUptoCard

/-- THE SECOND FORM's CARD OF 'bellmanlaw07.EventLines'. -/
def eventLinesUptoCard : Claim7 := { stood := { row := eventLinesUptoRow, standIns := [], harness := (true, "14ba13bd5f95e00b09bf4c1d66678f92482a20b927a3b80edc33f939cadecda2"), looks := true }, kinds := [], alts := [], laidByText := true, laidKinds := [.data, .data, .data, .data, .data, .pinned], laidTests := true, laidLooks := .later }
def EventLinesUptoCardSaid : Prop := Claim7.holds Tryz.pinned (.plain (OpenSpec.upto eventLinesSpec)) eventLinesUptoCard

/-- THE SECOND FORM's CARD OF 'bellmanlaw07.EventResets'. -/
def eventResetsUptoCard : Claim7 := { stood := { row := eventResetsUptoRow, standIns := [], harness := (true, "14ba13bd5f95e00b09bf4c1d66678f92482a20b927a3b80edc33f939cadecda2"), looks := true }, kinds := [], alts := [], laidByText := true, laidKinds := [.data, .data, .data, .data, .data, .pinned], laidTests := true, laidLooks := .later }
def EventResetsUptoCardSaid : Prop := Claim7.holds Tryz.pinned (.plain (OpenSpec.upto eventResetsSpec)) eventResetsUptoCard

/-- THE SECOND FORM's CARD OF 'bellmanlaw07.EventHolds'. -/
def eventHoldsUptoCard : Claim7 := { stood := { row := eventHoldsUptoRow, standIns := [], harness := (true, "14ba13bd5f95e00b09bf4c1d66678f92482a20b927a3b80edc33f939cadecda2"), looks := true }, kinds := [], alts := [], laidByText := true, laidKinds := [.data, .data, .data, .data, .data, .pinned], laidTests := true, laidLooks := .later }
def EventHoldsUptoCardSaid : Prop := Claim7.holds Tryz.pinned (.plain (OpenSpec.upto eventHoldsSpec)) eventHoldsUptoCard
end Rows
end Go.Proofs.YtlbiniibkbhghaaGreatDoor
