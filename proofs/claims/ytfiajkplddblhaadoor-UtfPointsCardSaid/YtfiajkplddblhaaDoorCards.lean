/-
  DERIVED. GIVEN WITH THE SEED: THE CARDS: each row of YtfiajkplddblhaaDoorRows.lean that lists a variable, with what it lists TIED to the program's text (the seventh form; the later family's looks); each row that meets fmt, with fmt's text TOLD by the authors' own Lean function (tested against real Go, not proved from fmt's source: count such statements apart). THE CARD IS WHAT COUNTS. Prove the row's statement (the work); the ties are given (YtfiajkplddblhaaDoorTie.lean); close each card by the builder's one call (the guide's Derived/Test/ToyasCard.lean, 'card_holds'). Laid BY PROGRAM, IN A SANDBOX (cutbox-door.mjs). By AI agents, Wed Nov 11 2026. No macro, syntax, notation, axiom, sorry.
-/
import Derived.Test.YtfiajkplddblhaaDoorRows
import GoSem.ClaimSeven
namespace Go.Proofs.YtfiajkplddblhaaDoor
namespace Rows

/-- THE TIED CARD OF 'bellmanlaw04.UtfOf'. -/
def utfOfCard : Claim7 := { stood := { row := utfOfRow, standIns := [], harness := (true, "04b5c05e3181f9a185301620f7f5695655b969841d706086f9bc16dd4836648d"), looks := false }, kinds := [], alts := [], laidByText := true, laidKinds := [.data], laidTests := true, laidLooks := .later }
def UtfOfCardSaid : Prop := Claim7.holds Tryd.pinned (.plain (OpenSpec.ofChange utfOfSpec)) utfOfCard

/-- THE TIED CARD OF 'bellmanlaw04.UtfPoints'. -/
def utfPointsCard : Claim7 := { stood := { row := utfPointsRow, standIns := [], harness := (true, "04b5c05e3181f9a185301620f7f5695655b969841d706086f9bc16dd4836648d"), looks := false }, kinds := [], alts := [], laidByText := true, laidKinds := [.data], laidTests := true, laidLooks := .later }
def UtfPointsCardSaid : Prop := Claim7.holds Tryd.pinned (.plain (OpenSpec.ofChange utfPointsSpec)) utfPointsCard

/-- THE TIED CARD OF 'bellmanlaw04.UtfEach'. -/
def utfEachCard : Claim7 := { stood := { row := utfEachRow, standIns := [], harness := (true, "04b5c05e3181f9a185301620f7f5695655b969841d706086f9bc16dd4836648d"), looks := false }, kinds := [], alts := [], laidByText := true, laidKinds := [.data], laidTests := true, laidLooks := .later }
def UtfEachCardSaid : Prop := Claim7.holds Tryd.pinned (.plain (OpenSpec.ofChange utfEachSpec)) utfEachCard

/-- THE TIED CARD OF 'bellmanlaw04.UtfWrites'. -/
def utfWritesCard : Claim7 := { stood := { row := utfWritesRow, standIns := [], harness := (true, "04b5c05e3181f9a185301620f7f5695655b969841d706086f9bc16dd4836648d"), looks := false }, kinds := [], alts := [], laidByText := true, laidKinds := [.data], laidTests := true, laidLooks := .later }
def UtfWritesCardSaid : Prop := Claim7.holds Tryd.pinned (.plain (OpenSpec.ofChange utfWritesSpec)) utfWritesCard

/-- THE TIED CARD OF 'bellmanlaw04.UtfHolds'. -/
def utfHoldsCard : Claim7 := { stood := { row := utfHoldsRow, standIns := [], harness := (true, "04b5c05e3181f9a185301620f7f5695655b969841d706086f9bc16dd4836648d"), looks := false }, kinds := [], alts := [], laidByText := true, laidKinds := [.data], laidTests := true, laidLooks := .later }
def UtfHoldsCardSaid : Prop := Claim7.holds Tryd.pinned (.plain (OpenSpec.ofChange utfHoldsSpec)) utfHoldsCard

/-- THE SECOND FORM's CARD OF 'bellmanlaw04.UtfOf'. -/
def utfOfUptoCard : Claim7 := { stood := { row := utfOfUptoRow, standIns := [], harness := (true, "04b5c05e3181f9a185301620f7f5695655b969841d706086f9bc16dd4836648d"), looks := false }, kinds := [], alts := [], laidByText := true, laidKinds := [.data], laidTests := true, laidLooks := .later }
def UtfOfUptoCardSaid : Prop := Claim7.holds Tryd.pinned (.plain (OpenSpec.upto utfOfSpec)) utfOfUptoCard

/-- THE SECOND FORM's CARD OF 'bellmanlaw04.UtfPoints'. -/
def utfPointsUptoCard : Claim7 := { stood := { row := utfPointsUptoRow, standIns := [], harness := (true, "04b5c05e3181f9a185301620f7f5695655b969841d706086f9bc16dd4836648d"), looks := false }, kinds := [], alts := [], laidByText := true, laidKinds := [.data], laidTests := true, laidLooks := .later }
def UtfPointsUptoCardSaid : Prop := Claim7.holds Tryd.pinned (.plain (OpenSpec.upto utfPointsSpec)) utfPointsUptoCard

/-- THE SECOND FORM's CARD OF 'bellmanlaw04.UtfEach'. -/
def utfEachUptoCard : Claim7 := { stood := { row := utfEachUptoRow, standIns := [], harness := (true, "04b5c05e3181f9a185301620f7f5695655b969841d706086f9bc16dd4836648d"), looks := false }, kinds := [], alts := [], laidByText := true, laidKinds := [.data], laidTests := true, laidLooks := .later }
def UtfEachUptoCardSaid : Prop := Claim7.holds Tryd.pinned (.plain (OpenSpec.upto utfEachSpec)) utfEachUptoCard

/-- THE SECOND FORM's CARD OF 'bellmanlaw04.UtfWrites'. -/
def utfWritesUptoCard : Claim7 := { stood := { row := utfWritesUptoRow, standIns := [], harness := (true, "04b5c05e3181f9a185301620f7f5695655b969841d706086f9bc16dd4836648d"), looks := false }, kinds := [], alts := [], laidByText := true, laidKinds := [.data], laidTests := true, laidLooks := .later }
def UtfWritesUptoCardSaid : Prop := Claim7.holds Tryd.pinned (.plain (OpenSpec.upto utfWritesSpec)) utfWritesUptoCard

/-- THE SECOND FORM's CARD OF 'bellmanlaw04.UtfHolds'. -/
def utfHoldsUptoCard : Claim7 := { stood := { row := utfHoldsUptoRow, standIns := [], harness := (true, "04b5c05e3181f9a185301620f7f5695655b969841d706086f9bc16dd4836648d"), looks := false }, kinds := [], alts := [], laidByText := true, laidKinds := [.data], laidTests := true, laidLooks := .later }
def UtfHoldsUptoCardSaid : Prop := Claim7.holds Tryd.pinned (.plain (OpenSpec.upto utfHoldsSpec)) utfHoldsUptoCard
end Rows
end Go.Proofs.YtfiajkplddblhaaDoor
