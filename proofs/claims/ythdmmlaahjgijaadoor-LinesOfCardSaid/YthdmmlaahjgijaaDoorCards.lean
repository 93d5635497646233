/-
  DERIVED. GIVEN WITH THE SEED: THE CARDS: each row of YthdmmlaahjgijaaDoorRows.lean that lists a variable, with what it lists TIED to the program's text (the seventh form; the later family's looks); each row that meets fmt, with fmt's text TOLD by the authors' own Lean function (tested against real Go, not proved from fmt's source: count such statements apart). THE CARD IS WHAT COUNTS. Prove the row's statement (the work); the ties are given (YthdmmlaahjgijaaDoorTie.lean); close each card by the builder's one call (the guide's Derived/Test/ToyasCard.lean, 'card_holds'). Laid BY PROGRAM, IN A SANDBOX (cutbox-door.mjs). By AI agents, Wed Nov 11 2026. No macro, syntax, notation, axiom, sorry.
-/
import Derived.Test.YthdmmlaahjgijaaDoorRows
import GoSem.ClaimSeven
namespace Go.Proofs.YthdmmlaahjgijaaDoor
namespace Rows

/-- THE TIED CARD OF 'bellmanlaw04.UtfOf'. -/
def utfOfCard : Claim7 := { stood := { row := utfOfRow, standIns := [], harness := (true, "958e3950af3dfdb0c36221f6d1036af691a837fcac6ce067cd2df0a4a23318aa"), looks := false }, kinds := [], alts := [], laidByText := true, laidKinds := [.data], laidTests := true, laidLooks := .later }
def UtfOfCardSaid : Prop := Claim7.holds Tryd.pinned (.plain (OpenSpec.ofChange utfOfSpec)) utfOfCard

/-- THE TIED CARD OF 'bellmanlaw04.UtfPoints'. -/
def utfPointsCard : Claim7 := { stood := { row := utfPointsRow, standIns := [], harness := (true, "958e3950af3dfdb0c36221f6d1036af691a837fcac6ce067cd2df0a4a23318aa"), looks := false }, kinds := [], alts := [], laidByText := true, laidKinds := [.data], laidTests := true, laidLooks := .later }
def UtfPointsCardSaid : Prop := Claim7.holds Tryd.pinned (.plain (OpenSpec.ofChange utfPointsSpec)) utfPointsCard

/-- THE TIED CARD OF 'bellmanlaw04.UtfEach'. -/
def utfEachCard : Claim7 := { stood := { row := utfEachRow, standIns := [], harness := (true, "958e3950af3dfdb0c36221f6d1036af691a837fcac6ce067cd2df0a4a23318aa"), looks := false }, kinds := [], alts := [], laidByText := true, laidKinds := [.data], laidTests := true, laidLooks := .later }
def UtfEachCardSaid : Prop := Claim7.holds Tryd.pinned (.plain (OpenSpec.ofChange utfEachSpec)) utfEachCard

/-- THE TIED CARD OF 'bellmanlaw04.UtfWrites'. -/
def utfWritesCard : Claim7 := { stood := { row := utfWritesRow, standIns := [], harness := (true, "958e3950af3dfdb0c36221f6d1036af691a837fcac6ce067cd2df0a4a23318aa"), looks := false }, kinds := [], alts := [], laidByText := true, laidKinds := [.data], laidTests := true, laidLooks := .later }
def UtfWritesCardSaid : Prop := Claim7.holds Tryd.pinned (.plain (OpenSpec.ofChange utfWritesSpec)) utfWritesCard

/-- THE TIED CARD OF 'bellmanlaw04.UtfHolds'. -/
def utfHoldsCard : Claim7 := { stood := { row := utfHoldsRow, standIns := [], harness := (true, "958e3950af3dfdb0c36221f6d1036af691a837fcac6ce067cd2df0a4a23318aa"), looks := false }, kinds := [], alts := [], laidByText := true, laidKinds := [.data], laidTests := true, laidLooks := .later }
def UtfHoldsCardSaid : Prop := Claim7.holds Tryd.pinned (.plain (OpenSpec.ofChange utfHoldsSpec)) utfHoldsCard

/-- THE TIED CARD OF 'bellmanlaw05.LinesOf'. -/
def linesOfCard : Claim7 := { stood := { row := linesOfRow, standIns := [], harness := (true, "958e3950af3dfdb0c36221f6d1036af691a837fcac6ce067cd2df0a4a23318aa"), looks := false }, kinds := [], alts := [], laidByText := true, laidKinds := [.data, .data], laidTests := true, laidLooks := .later }
def LinesOfCardSaid : Prop := Claim7.holds Tryd.pinned (.plain (OpenSpec.ofChange linesOfSpec)) linesOfCard

/-- THE TIED CARD OF 'bellmanlaw05.LinesWrite'. -/
def linesWriteCard : Claim7 := { stood := { row := linesWriteRow, standIns := [], harness := (true, "958e3950af3dfdb0c36221f6d1036af691a837fcac6ce067cd2df0a4a23318aa"), looks := false }, kinds := [], alts := [], laidByText := true, laidKinds := [.data, .data], laidTests := true, laidLooks := .later }
def LinesWriteCardSaid : Prop := Claim7.holds Tryd.pinned (.plain (OpenSpec.ofChange linesWriteSpec)) linesWriteCard

/-- THE TIED CARD OF 'bellmanlaw05.LinesHold'. -/
def linesHoldCard : Claim7 := { stood := { row := linesHoldRow, standIns := [], harness := (true, "958e3950af3dfdb0c36221f6d1036af691a837fcac6ce067cd2df0a4a23318aa"), looks := false }, kinds := [], alts := [], laidByText := true, laidKinds := [.data, .data], laidTests := true, laidLooks := .later }
def LinesHoldCardSaid : Prop := Claim7.holds Tryd.pinned (.plain (OpenSpec.ofChange linesHoldSpec)) linesHoldCard

/-- THE SECOND FORM's CARD OF 'bellmanlaw04.UtfOf'. -/
def utfOfUptoCard : Claim7 := { stood := { row := utfOfUptoRow, standIns := [], harness := (true, "958e3950af3dfdb0c36221f6d1036af691a837fcac6ce067cd2df0a4a23318aa"), looks := false }, kinds := [], alts := [], laidByText := true, laidKinds := [.data], laidTests := true, laidLooks := .later }
def UtfOfUptoCardSaid : Prop := Claim7.holds Tryd.pinned (.plain (OpenSpec.upto utfOfSpec)) utfOfUptoCard

/-- THE SECOND FORM's CARD OF 'bellmanlaw04.UtfPoints'. -/
def utfPointsUptoCard : Claim7 := { stood := { row := utfPointsUptoRow, standIns := [], harness := (true, "958e3950af3dfdb0c36221f6d1036af691a837fcac6ce067cd2df0a4a23318aa"), looks := false }, kinds := [], alts := [], laidByText := true, laidKinds := [.data], laidTests := true, laidLooks := .later }
def UtfPointsUptoCardSaid : Prop := Claim7.holds Tryd.pinned (.plain (OpenSpec.upto utfPointsSpec)) utfPointsUptoCard

/-- THE SECOND FORM's CARD OF 'bellmanlaw04.UtfEach'. -/
def utfEachUptoCard : Claim7 := { stood := { row := utfEachUptoRow, standIns := [], harness := (true, "958e3950af3dfdb0c36221f6d1036af691a837fcac6ce067cd2df0a4a23318aa"), looks := false }, kinds := [], alts := [], laidByText := true, laidKinds := [.data], laidTests := true, laidLooks := .later }
def UtfEachUptoCardSaid : Prop := Claim7.holds Tryd.pinned (.plain (OpenSpec.upto utfEachSpec)) utfEachUptoCard

/-- THE SECOND FORM's CARD OF 'bellmanlaw04.UtfWrites'. -/
def utfWritesUptoCard : Claim7 := { stood := { row := utfWritesUptoRow, standIns := [], harness := (true, "958e3950af3dfdb0c36221f6d1036af691a837fcac6ce067cd2df0a4a23318aa"), looks := false }, kinds := [], alts := [], laidByText := true, laidKinds := [.data], laidTests := true, laidLooks := .later }
def UtfWritesUptoCardSaid : Prop := Claim7.holds Tryd.pinned (.plain (OpenSpec.upto utfWritesSpec)) utfWritesUptoCard

/-- THE SECOND FORM's CARD OF 'bellmanlaw04.UtfHolds'. -/
def utfHoldsUptoCard : Claim7 := { stood := { row := utfHoldsUptoRow, standIns := [], harness := (true, "958e3950af3dfdb0c36221f6d1036af691a837fcac6ce067cd2df0a4a23318aa"), looks := false }, kinds := [], alts := [], laidByText := true, laidKinds := [.data], laidTests := true, laidLooks := .later }
def UtfHoldsUptoCardSaid : Prop := Claim7.holds Tryd.pinned (.plain (OpenSpec.upto utfHoldsSpec)) utfHoldsUptoCard

/-- THE SECOND FORM's CARD OF 'bellmanlaw05.LinesOf'. -/
def linesOfUptoCard : Claim7 := { stood := { row := linesOfUptoRow, standIns := [], harness := (true, "958e3950af3dfdb0c36221f6d1036af691a837fcac6ce067cd2df0a4a23318aa"), looks := false }, kinds := [], alts := [], laidByText := true, laidKinds := [.data, .data], laidTests := true, laidLooks := .later }
def LinesOfUptoCardSaid : Prop := Claim7.holds Tryd.pinned (.plain (OpenSpec.upto linesOfSpec)) linesOfUptoCard

/-- THE SECOND FORM's CARD OF 'bellmanlaw05.LinesWrite'. -/
def linesWriteUptoCard : Claim7 := { stood := { row := linesWriteUptoRow, standIns := [], harness := (true, "958e3950af3dfdb0c36221f6d1036af691a837fcac6ce067cd2df0a4a23318aa"), looks := false }, kinds := [], alts := [], laidByText := true, laidKinds := [.data, .data], laidTests := true, laidLooks := .later }
def LinesWriteUptoCardSaid : Prop := Claim7.holds Tryd.pinned (.plain (OpenSpec.upto linesWriteSpec)) linesWriteUptoCard

/-- THE SECOND FORM's CARD OF 'bellmanlaw05.LinesHold'. -/
def linesHoldUptoCard : Claim7 := { stood := { row := linesHoldUptoRow, standIns := [], harness := (true, "958e3950af3dfdb0c36221f6d1036af691a837fcac6ce067cd2df0a4a23318aa"), looks := false }, kinds := [], alts := [], laidByText := true, laidKinds := [.data, .data], laidTests := true, laidLooks := .later }
def LinesHoldUptoCardSaid : Prop := Claim7.holds Tryd.pinned (.plain (OpenSpec.upto linesHoldSpec)) linesHoldUptoCard
end Rows
end Go.Proofs.YthdmmlaahjgijaaDoor
