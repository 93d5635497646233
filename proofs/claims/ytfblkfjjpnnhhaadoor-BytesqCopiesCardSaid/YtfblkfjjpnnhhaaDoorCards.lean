/-
  DERIVED. GIVEN WITH THE SEED: THE CARDS: each row of YtfblkfjjpnnhhaaDoorRows.lean that lists a variable, with what it lists TIED to the program's text (the seventh form; the later family's looks); each row that meets fmt, with fmt's text TOLD by the authors' own Lean function (tested against real Go, not proved from fmt's source: count such statements apart). THE CARD IS WHAT COUNTS. Prove the row's statement (the work); the ties are given (YtfblkfjjpnnhhaaDoorTie.lean); close each card by the builder's one call (the guide's Derived/Test/ToyasCard.lean, 'card_holds'). Laid BY PROGRAM, IN A SANDBOX (cutbox-door.mjs). By AI agents, Wed Nov 11 2026. No macro, syntax, notation, axiom, sorry.
-/
import Derived.Test.YtfblkfjjpnnhhaaDoorRows
import GoSem.ClaimSeven
namespace Go.Proofs.YtfblkfjjpnnhhaaDoor
namespace Rows

/-- THE TIED CARD OF 'bellmanlaw02.BytesqPlays'. -/
def bytesqPlaysCard : Claim7 := { stood := { row := bytesqPlaysRow, standIns := [], harness := (true, "1fc6e20089f34c47b2f423c838d8d6ef433e0845fb90ecfd96e1c8f75a2bc2cb"), looks := false }, kinds := [], alts := [], laidByText := true, laidKinds := [.data], laidTests := true, laidLooks := .later }
def BytesqPlaysCardSaid : Prop := Claim7.holds Tryd.pinned (.plain (OpenSpec.ofChange bytesqPlaysSpec)) bytesqPlaysCard

/-- THE TIED CARD OF 'bellmanlaw02.BytesqCopies'. -/
def bytesqCopiesCard : Claim7 := { stood := { row := bytesqCopiesRow, standIns := [], harness := (true, "1fc6e20089f34c47b2f423c838d8d6ef433e0845fb90ecfd96e1c8f75a2bc2cb"), looks := false }, kinds := [], alts := [], laidByText := true, laidKinds := [.data], laidTests := true, laidLooks := .later }
def BytesqCopiesCardSaid : Prop := Claim7.holds Tryd.pinned (.plain (OpenSpec.ofChange bytesqCopiesSpec)) bytesqCopiesCard

/-- THE TIED CARD OF 'bellmanlaw02.BytesqNone'. -/
def bytesqNoneCard : Claim7 := { stood := { row := bytesqNoneRow, standIns := [], harness := (true, "1fc6e20089f34c47b2f423c838d8d6ef433e0845fb90ecfd96e1c8f75a2bc2cb"), looks := false }, kinds := [], alts := [], laidByText := true, laidKinds := [.data], laidTests := true, laidLooks := .later }
def BytesqNoneCardSaid : Prop := Claim7.holds Tryd.pinned (.plain (OpenSpec.ofChange bytesqNoneSpec)) bytesqNoneCard

/-- THE TIED CARD OF 'bellmanlaw02.BytesqHolds'. -/
def bytesqHoldsCard : Claim7 := { stood := { row := bytesqHoldsRow, standIns := [], harness := (true, "1fc6e20089f34c47b2f423c838d8d6ef433e0845fb90ecfd96e1c8f75a2bc2cb"), looks := false }, kinds := [], alts := [], laidByText := true, laidKinds := [.data], laidTests := true, laidLooks := .later }
def BytesqHoldsCardSaid : Prop := Claim7.holds Tryd.pinned (.plain (OpenSpec.ofChange bytesqHoldsSpec)) bytesqHoldsCard

/-- THE SECOND FORM's CARD OF 'bellmanlaw02.BytesqPlays'. -/
def bytesqPlaysUptoCard : Claim7 := { stood := { row := bytesqPlaysUptoRow, standIns := [], harness := (true, "1fc6e20089f34c47b2f423c838d8d6ef433e0845fb90ecfd96e1c8f75a2bc2cb"), looks := false }, kinds := [], alts := [], laidByText := true, laidKinds := [.data], laidTests := true, laidLooks := .later }
def BytesqPlaysUptoCardSaid : Prop := Claim7.holds Tryd.pinned (.plain (OpenSpec.upto bytesqPlaysSpec)) bytesqPlaysUptoCard

/-- THE SECOND FORM's CARD OF 'bellmanlaw02.BytesqCopies'. -/
def bytesqCopiesUptoCard : Claim7 := { stood := { row := bytesqCopiesUptoRow, standIns := [], harness := (true, "1fc6e20089f34c47b2f423c838d8d6ef433e0845fb90ecfd96e1c8f75a2bc2cb"), looks := false }, kinds := [], alts := [], laidByText := true, laidKinds := [.data], laidTests := true, laidLooks := .later }
def BytesqCopiesUptoCardSaid : Prop := Claim7.holds Tryd.pinned (.plain (OpenSpec.upto bytesqCopiesSpec)) bytesqCopiesUptoCard

/-- THE SECOND FORM's CARD OF 'bellmanlaw02.BytesqNone'. -/
def bytesqNoneUptoCard : Claim7 := { stood := { row := bytesqNoneUptoRow, standIns := [], harness := (true, "1fc6e20089f34c47b2f423c838d8d6ef433e0845fb90ecfd96e1c8f75a2bc2cb"), looks := false }, kinds := [], alts := [], laidByText := true, laidKinds := [.data], laidTests := true, laidLooks := .later }
def BytesqNoneUptoCardSaid : Prop := Claim7.holds Tryd.pinned (.plain (OpenSpec.upto bytesqNoneSpec)) bytesqNoneUptoCard

/-- THE SECOND FORM's CARD OF 'bellmanlaw02.BytesqHolds'. -/
def bytesqHoldsUptoCard : Claim7 := { stood := { row := bytesqHoldsUptoRow, standIns := [], harness := (true, "1fc6e20089f34c47b2f423c838d8d6ef433e0845fb90ecfd96e1c8f75a2bc2cb"), looks := false }, kinds := [], alts := [], laidByText := true, laidKinds := [.data], laidTests := true, laidLooks := .later }
def BytesqHoldsUptoCardSaid : Prop := Claim7.holds Tryd.pinned (.plain (OpenSpec.upto bytesqHoldsSpec)) bytesqHoldsUptoCard
end Rows
end Go.Proofs.YtfblkfjjpnnhhaaDoor
