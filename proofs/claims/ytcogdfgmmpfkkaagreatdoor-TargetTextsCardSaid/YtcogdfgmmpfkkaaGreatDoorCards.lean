/-
  DERIVED. GIVEN WITH THE SEED: THE CARDS: each row of YtcogdfgmmpfkkaaGreatDoorRows.lean that lists a variable, with what it lists TIED to the program's text (the seventh form; the later family's looks); each row that meets fmt, with fmt's text TOLD by the authors' own Lean function (tested against real Go, not proved from fmt's source: count such statements apart). THE CARD IS WHAT COUNTS. Prove the row's statement (the work); the ties are given (YtcogdfgmmpfkkaaGreatDoorTie.lean); close each card by the builder's one call (the guide's Derived/Test/ToyasCard.lean, 'card_holds'). Laid BY PROGRAM, IN A SANDBOX (cutbox-door.mjs). By AI agents, Wed Nov 11 2026. No macro, syntax, notation, axiom, sorry.
-/
import Derived.Test.YtcogdfgmmpfkkaaGreatDoorRows
import GoSem.ClaimSeven
namespace Go.Proofs.YtcogdfgmmpfkkaaGreatDoor
namespace Rows

/-- THE TIED CARD OF 'bellmanlaw11.TargetParses'. -/
def targetParsesCard : Claim7 := { stood := { row := targetParsesRow, standIns := [], harness := (true, "06d626712010482305665f411dd52916adb5fb561fc4de7db194c6a2b0ee9e21"), looks := true }, kinds := [], alts := [], laidByText := true, laidKinds := [.data, .data, .pinned, .pinned], laidTests := true, laidLooks := .later }
def TargetParsesCardSaid : Prop := Claim7.holds Tryz.pinned (.plain (OpenSpec.ofChange targetParsesSpec)) targetParsesCard

/-- THE TIED CARD OF 'bellmanlaw11.TargetTexts'. -/
def targetTextsCard : Claim7 := { stood := { row := targetTextsRow, standIns := [], harness := (true, "06d626712010482305665f411dd52916adb5fb561fc4de7db194c6a2b0ee9e21"), looks := true }, kinds := [], alts := [], laidByText := true, laidKinds := [.data, .data, .pinned, .pinned], laidTests := true, laidLooks := .later }
def TargetTextsCardSaid : Prop := Claim7.holds Tryz.pinned (.plain (OpenSpec.ofChange targetTextsSpec)) targetTextsCard

/-- THE TIED CARD OF 'bellmanlaw11.TargetHolds'. -/
def targetHoldsCard : Claim7 := { stood := { row := targetHoldsRow, standIns := [], harness := (true, "06d626712010482305665f411dd52916adb5fb561fc4de7db194c6a2b0ee9e21"), looks := true }, kinds := [], alts := [], laidByText := true, laidKinds := [.data, .data, .pinned, .pinned], laidTests := true, laidLooks := .later }
def TargetHoldsCardSaid : Prop := Claim7.holds Tryz.pinned (.plain (OpenSpec.ofChange targetHoldsSpec)) targetHoldsCard

/-- THE SECOND FORM's CARD OF 'bellmanlaw11.TargetParses'. -/
def targetParsesUptoCard : Claim7 := { stood := { row := targetParsesUptoRow, standIns := [], harness := (true, "06d626712010482305665f411dd52916adb5fb561fc4de7db194c6a2b0ee9e21"), looks := true }, kinds := [], alts := [], laidByText := true, laidKinds := [.data, .data, .pinned, .pinned], laidTests := true, laidLooks := .later }
def TargetParsesUptoCardSaid : Prop := Claim7.holds Tryz.pinned (.plain (OpenSpec.upto targetParsesSpec)) targetParsesUptoCard

/-- THE SECOND FORM's CARD OF 'bellmanlaw11.TargetTexts'. -/
def targetTextsUptoCard : Claim7 := { stood := { row := targetTextsUptoRow, standIns := [], harness := (true, "06d626712010482305665f411dd52916adb5fb561fc4de7db194c6a2b0ee9e21"), looks := true }, kinds := [], alts := [], laidByText := true, laidKinds := [.data, .data, .pinned, .pinned], laidTests := true, laidLooks := .later }
def TargetTextsUptoCardSaid : Prop := Claim7.holds Tryz.pinned (.plain (OpenSpec.upto targetTextsSpec)) targetTextsUptoCard

/-- THE SECOND FORM's CARD OF 'bellmanlaw11.TargetHolds'. -/
def targetHoldsUptoCard : Claim7 := { stood := { row := targetHoldsUptoRow, standIns := [], harness := (true, "06d626712010482305665f411dd52916adb5fb561fc4de7db194c6a2b0ee9e21"), looks := true }, kinds := [], alts := [], laidByText := true, laidKinds := [.data, .data, .pinned, .pinned], laidTests := true, laidLooks := .later }
def TargetHoldsUptoCardSaid : Prop := Claim7.holds Tryz.pinned (.plain (OpenSpec.upto targetHoldsSpec)) targetHoldsUptoCard
end Rows
end Go.Proofs.YtcogdfgmmpfkkaaGreatDoor
