/-
  DERIVED. GIVEN WITH THE SEED: THE CARDS: each row of YtlcfpnegpihicaaGreatDoorRows.lean that lists a variable, with what it lists TIED to the program's text (the seventh form; the later family's looks); each row that meets fmt, with fmt's text TOLD by the authors' own Lean function (tested against real Go, not proved from fmt's source: count such statements apart). THE CARD IS WHAT COUNTS. Prove the row's statement (the work); the ties are given (YtlcfpnegpihicaaGreatDoorTie.lean); close each card by the builder's one call (the guide's Derived/Test/ToyasCard.lean, 'card_holds'). Laid BY PROGRAM, IN A SANDBOX (cutbox-door.mjs). By AI agents, Wed Nov 11 2026. No macro, syntax, notation, axiom, sorry.
-/
import Derived.Test.YtlcfpnegpihicaaGreatDoorRows
import GoSem.ClaimSeven
namespace Go.Proofs.YtlcfpnegpihicaaGreatDoor
namespace Rows

/-- THE TIED CARD OF 'bellmanlaw08.ParseOf'. -/
def parseOfCard : Claim7 := { stood := { row := parseOfRow, standIns := [], harness := (true, "68accc6b4df52207f0ec462b7f4542aa3e36136b9843850e6801dd868e8455e7"), looks := true }, kinds := [], alts := [], laidByText := true, laidKinds := [.data, .data, .data, .data, .data, .data, .data, .pinned], laidTests := true, laidLooks := .later }
def ParseOfCardSaid : Prop := Claim7.holds Tryz.pinned (.plain (OpenSpec.ofChange parseOfSpec)) parseOfCard

/-- THE TIED CARD OF 'bellmanlaw08.ParseWrites'. -/
def parseWritesCard : Claim7 := { stood := { row := parseWritesRow, standIns := [], harness := (true, "68accc6b4df52207f0ec462b7f4542aa3e36136b9843850e6801dd868e8455e7"), looks := true }, kinds := [], alts := [], laidByText := true, laidKinds := [.data, .data, .data, .data, .data, .data, .data, .pinned], laidTests := true, laidLooks := .later }
def ParseWritesCardSaid : Prop := Claim7.holds Tryz.pinned (.plain (OpenSpec.ofChange parseWritesSpec)) parseWritesCard

/-- THE TIED CARD OF 'bellmanlaw08.ParsePieces'. -/
def parsePiecesCard : Claim7 := { stood := { row := parsePiecesRow, standIns := [], harness := (true, "68accc6b4df52207f0ec462b7f4542aa3e36136b9843850e6801dd868e8455e7"), looks := true }, kinds := [], alts := [], laidByText := true, laidKinds := [.data, .data, .data, .data, .data, .data, .data, .pinned], laidTests := true, laidLooks := .later }
def ParsePiecesCardSaid : Prop := Claim7.holds Tryz.pinned (.plain (OpenSpec.ofChange parsePiecesSpec)) parsePiecesCard

/-- THE SECOND FORM's CARD OF 'bellmanlaw08.ParseOf'. -/
def parseOfUptoCard : Claim7 := { stood := { row := parseOfUptoRow, standIns := [], harness := (true, "68accc6b4df52207f0ec462b7f4542aa3e36136b9843850e6801dd868e8455e7"), looks := true }, kinds := [], alts := [], laidByText := true, laidKinds := [.data, .data, .data, .data, .data, .data, .data, .pinned], laidTests := true, laidLooks := .later }
def ParseOfUptoCardSaid : Prop := Claim7.holds Tryz.pinned (.plain (OpenSpec.upto parseOfSpec)) parseOfUptoCard

/-- THE SECOND FORM's CARD OF 'bellmanlaw08.ParseWrites'. -/
def parseWritesUptoCard : Claim7 := { stood := { row := parseWritesUptoRow, standIns := [], harness := (true, "68accc6b4df52207f0ec462b7f4542aa3e36136b9843850e6801dd868e8455e7"), looks := true }, kinds := [], alts := [], laidByText := true, laidKinds := [.data, .data, .data, .data, .data, .data, .data, .pinned], laidTests := true, laidLooks := .later }
def ParseWritesUptoCardSaid : Prop := Claim7.holds Tryz.pinned (.plain (OpenSpec.upto parseWritesSpec)) parseWritesUptoCard

/-- THE SECOND FORM's CARD OF 'bellmanlaw08.ParsePieces'. -/
def parsePiecesUptoCard : Claim7 := { stood := { row := parsePiecesUptoRow, standIns := [], harness := (true, "68accc6b4df52207f0ec462b7f4542aa3e36136b9843850e6801dd868e8455e7"), looks := true }, kinds := [], alts := [], laidByText := true, laidKinds := [.data, .data, .data, .data, .data, .data, .data, .pinned], laidTests := true, laidLooks := .later }
def ParsePiecesUptoCardSaid : Prop := Claim7.holds Tryz.pinned (.plain (OpenSpec.upto parsePiecesSpec)) parsePiecesUptoCard
end Rows
end Go.Proofs.YtlcfpnegpihicaaGreatDoor
