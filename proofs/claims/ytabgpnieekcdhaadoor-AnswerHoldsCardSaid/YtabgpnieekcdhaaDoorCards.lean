/-
  DERIVED. GIVEN WITH THE SEED: THE CARDS: each row of YtabgpnieekcdhaaDoorRows.lean that lists a variable, with what it lists TIED to the program's text (the seventh form; the later family's looks); each row that meets fmt, with fmt's text TOLD by the authors' own Lean function (tested against real Go, not proved from fmt's source: count such statements apart). THE CARD IS WHAT COUNTS. Prove the row's statement (the work); the ties are given (YtabgpnieekcdhaaDoorTie.lean); close each card by the builder's one call (the guide's Derived/Test/ToyasCard.lean, 'card_holds'). Laid BY PROGRAM, IN A SANDBOX (cutbox-door.mjs). By AI agents, Wed Nov 11 2026. No macro, syntax, notation, axiom, sorry.
-/
import Derived.Test.YtabgpnieekcdhaaDoorRows
import GoSem.ClaimSeven
namespace Go.Proofs.YtabgpnieekcdhaaDoor
namespace Rows

/-- THE TIED CARD OF 'bellmanlaw14.AnswerPlain'. -/
def answerPlainCard : Claim7 := { stood := { row := answerPlainRow, standIns := [], harness := (true, "6228b63aabdbcbfa2cecf52a723ce8e400264766c533ff343c61e708b20e09de"), looks := true }, kinds := [], alts := [], laidByText := true, laidKinds := [.data, .data], laidTests := true, laidLooks := .later }
def AnswerPlainCardSaid : Prop := Claim7.holds Tryd.pinned (.plain (OpenSpec.ofChange answerPlainSpec)) answerPlainCard

/-- THE TIED CARD OF 'bellmanlaw14.AnswerStream'. -/
def answerStreamCard : Claim7 := { stood := { row := answerStreamRow, standIns := [], harness := (true, "6228b63aabdbcbfa2cecf52a723ce8e400264766c533ff343c61e708b20e09de"), looks := true }, kinds := [], alts := [], laidByText := true, laidKinds := [.data, .data], laidTests := true, laidLooks := .later }
def AnswerStreamCardSaid : Prop := Claim7.holds Tryd.pinned (.plain (OpenSpec.ofChange answerStreamSpec)) answerStreamCard

/-- THE TIED CARD OF 'bellmanlaw14.AnswerStatuses'. -/
def answerStatusesCard : Claim7 := { stood := { row := answerStatusesRow, standIns := [], harness := (true, "6228b63aabdbcbfa2cecf52a723ce8e400264766c533ff343c61e708b20e09de"), looks := true }, kinds := [], alts := [], laidByText := true, laidKinds := [.data, .data], laidTests := true, laidLooks := .later }
def AnswerStatusesCardSaid : Prop := Claim7.holds Tryd.pinned (.plain (OpenSpec.ofChange answerStatusesSpec)) answerStatusesCard

/-- THE TIED CARD OF 'bellmanlaw14.AnswerHolds'. -/
def answerHoldsCard : Claim7 := { stood := { row := answerHoldsRow, standIns := [], harness := (true, "6228b63aabdbcbfa2cecf52a723ce8e400264766c533ff343c61e708b20e09de"), looks := true }, kinds := [], alts := [], laidByText := true, laidKinds := [.data, .data], laidTests := true, laidLooks := .later }
def AnswerHoldsCardSaid : Prop := Claim7.holds Tryd.pinned (.plain (OpenSpec.ofChange answerHoldsSpec)) answerHoldsCard

/-- THE SECOND FORM's CARD OF 'bellmanlaw14.AnswerPlain'. -/
def answerPlainUptoCard : Claim7 := { stood := { row := answerPlainUptoRow, standIns := [], harness := (true, "6228b63aabdbcbfa2cecf52a723ce8e400264766c533ff343c61e708b20e09de"), looks := true }, kinds := [], alts := [], laidByText := true, laidKinds := [.data, .data], laidTests := true, laidLooks := .later }
def AnswerPlainUptoCardSaid : Prop := Claim7.holds Tryd.pinned (.plain (OpenSpec.upto answerPlainSpec)) answerPlainUptoCard

/-- THE SECOND FORM's CARD OF 'bellmanlaw14.AnswerStream'. -/
def answerStreamUptoCard : Claim7 := { stood := { row := answerStreamUptoRow, standIns := [], harness := (true, "6228b63aabdbcbfa2cecf52a723ce8e400264766c533ff343c61e708b20e09de"), looks := true }, kinds := [], alts := [], laidByText := true, laidKinds := [.data, .data], laidTests := true, laidLooks := .later }
def AnswerStreamUptoCardSaid : Prop := Claim7.holds Tryd.pinned (.plain (OpenSpec.upto answerStreamSpec)) answerStreamUptoCard

/-- THE SECOND FORM's CARD OF 'bellmanlaw14.AnswerStatuses'. -/
def answerStatusesUptoCard : Claim7 := { stood := { row := answerStatusesUptoRow, standIns := [], harness := (true, "6228b63aabdbcbfa2cecf52a723ce8e400264766c533ff343c61e708b20e09de"), looks := true }, kinds := [], alts := [], laidByText := true, laidKinds := [.data, .data], laidTests := true, laidLooks := .later }
def AnswerStatusesUptoCardSaid : Prop := Claim7.holds Tryd.pinned (.plain (OpenSpec.upto answerStatusesSpec)) answerStatusesUptoCard

/-- THE SECOND FORM's CARD OF 'bellmanlaw14.AnswerHolds'. -/
def answerHoldsUptoCard : Claim7 := { stood := { row := answerHoldsUptoRow, standIns := [], harness := (true, "6228b63aabdbcbfa2cecf52a723ce8e400264766c533ff343c61e708b20e09de"), looks := true }, kinds := [], alts := [], laidByText := true, laidKinds := [.data, .data], laidTests := true, laidLooks := .later }
def AnswerHoldsUptoCardSaid : Prop := Claim7.holds Tryd.pinned (.plain (OpenSpec.upto answerHoldsSpec)) answerHoldsUptoCard
end Rows
end Go.Proofs.YtabgpnieekcdhaaDoor
