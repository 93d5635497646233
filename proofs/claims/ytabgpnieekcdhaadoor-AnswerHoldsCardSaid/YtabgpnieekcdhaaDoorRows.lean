/-
  NARROWER THAN 'FOR EVERY INPUT', by the rows' own cells (each row's printed sentence says how): AnswerPlain: laid · AnswerStream: laid · AnswerStatuses: laid · AnswerHolds: laid.
  DERIVED. THE GIVEN ROWS OF THIS SEAT. 4 by the template 'for every input the law returns true; each argument reads behind the call as it read before'; 0 by the template 'total and deterministic' (their statements: YtabgpnieekcdhaaDoorTotals.lean).
  GIVEN WITH THE SEED: the statements are not yours to turn. If you find one false, say at which input.
  Laid BY PROGRAM, IN A SANDBOX (cutbox-rows.mjs): the forced cells as the released guide's own fill.sh prints them over the translation cfd88d582e2527be… (all of the seat's roots in one cut). By AI agents, Wed Nov 11 2026. No macro, syntax, notation, axiom, sorry.
-/
import Derived.Test.YtabgpnieekcdhaaDoorChecked
import GoSem.Claim
import GoSem.ClaimJoined
import GoSem.ClaimMapViews
import Derived.JoinedTies
import Derived.KernelRfl
namespace Go.Proofs.YtabgpnieekcdhaaDoor
/- THE CELL 'sum', in the pinned program and in every row, IS THE sha256 OF THE DUMP (.gsa) THAT YtabgpnieekcdhaaDoorProg.lean LOADS. Nothing in Lean hashes anything: it is a label: what it is worth is what the hold of that sum in a sandbox is worth. -/
noncomputable def Tryd.pinned : Pinned := { name := "ytabgpnieekcdhaadoor", sum := "cfd88d582e2527be1d9ef435a3a5860231bc773078ef61326de74b2645d1b915", checked := Tryd.checked }
namespace Rows
def none {H : Type} : Left H := { results := [], args := [] }

/- WHAT THE LISTED PACKAGE-LEVEL VARIABLES READ AS WHEN THE CALL BEGINS. Each datum BY PROGRAM (the guide's laid-datum.mjs) off the statement by which the dump's own 'gosem.cut.vars' lays the variable. In a bare row this is a premise. The card (YtabgpnieekcdhaaDoorCards.lean) ties it to the program's text. -/
def laid_bellman_decimal_bases {H : Type} : DataW H := .agg [.lit (.int .u64 10), .lit (.int .u64 16)]
def laid_bellman_answer_statuses {H : Type} : DataW H := .agg [.agg [.lit (.int .i64 200), .lit (.string [79, 75])], .agg [.lit (.int .i64 400), .lit (.string [66, 97, 100, 32, 82, 101, 113, 117, 101, 115, 116])], .agg [.lit (.int .i64 404), .lit (.string [78, 111, 116, 32, 70, 111, 117, 110, 100])], .agg [.lit (.int .i64 405), .lit (.string [77, 101, 116, 104, 111, 100, 32, 78, 111, 116, 32, 65, 108, 108, 111, 119, 101, 100])], .agg [.lit (.int .i64 406), .lit (.string [78, 111, 116, 32, 65, 99, 99, 101, 112, 116, 97, 98, 108, 101])], .agg [.lit (.int .i64 431), .lit (.string [82, 101, 113, 117, 101, 115, 116, 32, 72, 101, 97, 100, 101, 114, 32, 70, 105, 101, 108, 100, 115, 32, 84, 111, 111, 32, 76, 97, 114, 103, 101])], .agg [.lit (.int .i64 503), .lit (.string [83, 101, 114, 118, 105, 99, 101, 32, 85, 110, 97, 118, 97, 105, 108, 97, 98, 108, 101])], .agg [.lit (.int .i64 505), .lit (.string [72, 84, 84, 80, 32, 86, 101, 114, 115, 105, 111, 110, 32, 78, 111, 116, 32, 83, 117, 112, 112, 111, 114, 116, 101, 100])]]

/-- 'bellmanlaw14.AnswerPlain': WHATEVER THE INPUT: true; the input reads as it did. -/
def answerPlainSpec : ChangeSpec := { name := "answerPlain", fn := fun _ => fun
  | [d1, d2] => { results := [.lit (.bool true)], args := [d1, d2] }
  | _ => none }
def answerPlainRow : OpenClaim := { program := "ytabgpnieekcdhaadoor", sum := "cfd88d582e2527be1d9ef435a3a5860231bc773078ef61326de74b2645d1b915", func := "bellman/bellmanlaw14.AnswerPlain", spec := "answerPlain", inPlace := ["internal/abi.NoEscape", "internal/bytealg.MakeNoZero", "internal/bytealg.IndexByteString"], unfollowed := true, recurses := true, named := ["bellman/answer.statuses", "bellman/decimal.bases"], apart := false, laid := [("bellman/decimal.bases", laid_bellman_decimal_bases), ("bellman/answer.statuses", laid_bellman_answer_statuses)] }
def AnswerPlainSaid : Prop := answerPlainRow.holds Tryd.pinned (OpenSpec.ofChange answerPlainSpec)

/-- ITS FALSE NEIGHBOUR: 'it returns false'. Refute it at one input. -/
def answerPlainWrong : ChangeSpec := { name := "answerPlain", fn := fun _ => fun
  | [d1, d2] => { results := [.lit (.bool false)], args := [d1, d2] }
  | _ => none }
def AnswerPlainWrongFalsely : Prop := answerPlainRow.holds Tryd.pinned (OpenSpec.ofChange answerPlainWrong)

/-- 'bellmanlaw14.AnswerStream': WHATEVER THE INPUT: true; the input reads as it did. -/
def answerStreamSpec : ChangeSpec := { name := "answerStream", fn := fun _ => fun
  | [d1, d2, d3, d4] => { results := [.lit (.bool true)], args := [d1, d2, d3, d4] }
  | _ => none }
def answerStreamRow : OpenClaim := { program := "ytabgpnieekcdhaadoor", sum := "cfd88d582e2527be1d9ef435a3a5860231bc773078ef61326de74b2645d1b915", func := "bellman/bellmanlaw14.AnswerStream", spec := "answerStream", inPlace := ["internal/abi.NoEscape", "internal/bytealg.MakeNoZero", "internal/bytealg.IndexByteString"], unfollowed := true, recurses := true, named := ["bellman/answer.statuses", "bellman/decimal.bases"], apart := false, laid := [("bellman/decimal.bases", laid_bellman_decimal_bases), ("bellman/answer.statuses", laid_bellman_answer_statuses)] }
def AnswerStreamSaid : Prop := answerStreamRow.holds Tryd.pinned (OpenSpec.ofChange answerStreamSpec)

/-- ITS FALSE NEIGHBOUR: 'it returns false'. Refute it at one input. -/
def answerStreamWrong : ChangeSpec := { name := "answerStream", fn := fun _ => fun
  | [d1, d2, d3, d4] => { results := [.lit (.bool false)], args := [d1, d2, d3, d4] }
  | _ => none }
def AnswerStreamWrongFalsely : Prop := answerStreamRow.holds Tryd.pinned (OpenSpec.ofChange answerStreamWrong)

/-- 'bellmanlaw14.AnswerStatuses': WHATEVER THE INPUT: true; the input reads as it did. -/
def answerStatusesSpec : ChangeSpec := { name := "answerStatuses", fn := fun _ => fun
  | [d] => { results := [.lit (.bool true)], args := [d] }
  | _ => none }
def answerStatusesRow : OpenClaim := { program := "ytabgpnieekcdhaadoor", sum := "cfd88d582e2527be1d9ef435a3a5860231bc773078ef61326de74b2645d1b915", func := "bellman/bellmanlaw14.AnswerStatuses", spec := "answerStatuses", inPlace := ["internal/abi.NoEscape", "internal/bytealg.MakeNoZero", "internal/bytealg.IndexByteString"], unfollowed := true, recurses := true, named := ["bellman/answer.statuses", "bellman/decimal.bases"], apart := false, laid := [("bellman/decimal.bases", laid_bellman_decimal_bases), ("bellman/answer.statuses", laid_bellman_answer_statuses)] }
def AnswerStatusesSaid : Prop := answerStatusesRow.holds Tryd.pinned (OpenSpec.ofChange answerStatusesSpec)

/-- ITS FALSE NEIGHBOUR: 'it returns false'. Refute it at one input. -/
def answerStatusesWrong : ChangeSpec := { name := "answerStatuses", fn := fun _ => fun
  | [d] => { results := [.lit (.bool false)], args := [d] }
  | _ => none }
def AnswerStatusesWrongFalsely : Prop := answerStatusesRow.holds Tryd.pinned (OpenSpec.ofChange answerStatusesWrong)

/-- 'bellmanlaw14.AnswerHolds': WHATEVER THE INPUT: true; the input reads as it did. -/
def answerHoldsSpec : ChangeSpec := { name := "answerHolds", fn := fun _ => fun
  | [d1, d2, d3, d4, d5] => { results := [.lit (.bool true)], args := [d1, d2, d3, d4, d5] }
  | _ => none }
def answerHoldsRow : OpenClaim := { program := "ytabgpnieekcdhaadoor", sum := "cfd88d582e2527be1d9ef435a3a5860231bc773078ef61326de74b2645d1b915", func := "bellman/bellmanlaw14.AnswerHolds", spec := "answerHolds", inPlace := ["internal/abi.NoEscape", "internal/bytealg.MakeNoZero", "internal/bytealg.IndexByteString"], unfollowed := true, recurses := true, named := ["bellman/answer.statuses", "bellman/decimal.bases"], apart := false, laid := [("bellman/decimal.bases", laid_bellman_decimal_bases), ("bellman/answer.statuses", laid_bellman_answer_statuses)] }
def AnswerHoldsSaid : Prop := answerHoldsRow.holds Tryd.pinned (OpenSpec.ofChange answerHoldsSpec)

/-- ITS FALSE NEIGHBOUR: 'it returns false'. Refute it at one input. -/
def answerHoldsWrong : ChangeSpec := { name := "answerHolds", fn := fun _ => fun
  | [d1, d2, d3, d4, d5] => { results := [.lit (.bool false)], args := [d1, d2, d3, d4, d5] }
  | _ => none }
def AnswerHoldsWrongFalsely : Prop := answerHoldsRow.holds Tryd.pinned (OpenSpec.ofChange answerHoldsWrong)

/- THE SECOND FORM. 'bulk': how many values and letters a reading holds, each counted each time it is reached (what is shared counts as often as it is met; a slice's spare places count too). A statement '..UptoSaid' is the law's where the arguments, and the package variables that the reading takes, are together of bulk at most 1048576: NARROWER than '..Said'. Prove '..Said' where nothing that the law and all that it calls make is longer than what came in: it says more and counts as full. Else prove '..UptoSaid'. A law counts once. -/
mutual
def uptoBulk {H : Type} : DataW H → Nat
  | .lit (.string bytes) => bytes.length + 1
  | .lit _ => 1
  | .nil => 1
  | .ptr d => uptoBulk d + 1
  | .slice elems spare => uptoBulkAll elems + uptoBulkAll spare + 1
  | .agg parts => uptoBulkAll parts + 1
  | .iface _ d => uptoBulk d + 1
  | .map entries => uptoBulkEntries entries + 1
  | .held _ => 1
def uptoBulkAll {H : Type} : List (DataW H) → Nat
  | [] => 0
  | d :: r => uptoBulk d + uptoBulkAll r
def uptoBulkEntries {H : Type} : List (Lit × DataW H) → Nat
  | [] => 0
  | x :: r => uptoBulkEntry x + uptoBulkEntries r
def uptoBulkEntry {H : Type} : Lit × DataW H → Nat
  | (.string bytes, d) => bytes.length + uptoBulk d + 1
  | (_, d) => uptoBulk d + 1
 end
def uptoSmall : (H : Type) → List (DataW H) → Bool := fun _ ds => decide (uptoBulkAll ds ≤ 1048576)
def OpenSpec.upto (s : _root_.Go.ChangeSpec) : _root_.Go.OpenSpec := { _root_.Go.OpenSpec.ofChange s with cond := some uptoSmall }

/-- 'bellmanlaw14.AnswerPlain', WHERE WHAT IT READS IS OF BULK AT MOST 1048576: true; the input reads as it did. -/
def answerPlainUptoRow : OpenClaim := { program := "ytabgpnieekcdhaadoor", sum := "cfd88d582e2527be1d9ef435a3a5860231bc773078ef61326de74b2645d1b915", func := "bellman/bellmanlaw14.AnswerPlain", spec := "answerPlain", inPlace := ["internal/abi.NoEscape", "internal/bytealg.MakeNoZero", "internal/bytealg.IndexByteString"], unfollowed := true, recurses := true, named := ["bellman/answer.statuses", "bellman/decimal.bases"], apart := false, laid := [("bellman/decimal.bases", laid_bellman_decimal_bases), ("bellman/answer.statuses", laid_bellman_answer_statuses)], narrowed := true }
def AnswerPlainUptoSaid : Prop := answerPlainUptoRow.holds Tryd.pinned (OpenSpec.upto answerPlainSpec)

/-- 'bellmanlaw14.AnswerStream', WHERE WHAT IT READS IS OF BULK AT MOST 1048576: true; the input reads as it did. -/
def answerStreamUptoRow : OpenClaim := { program := "ytabgpnieekcdhaadoor", sum := "cfd88d582e2527be1d9ef435a3a5860231bc773078ef61326de74b2645d1b915", func := "bellman/bellmanlaw14.AnswerStream", spec := "answerStream", inPlace := ["internal/abi.NoEscape", "internal/bytealg.MakeNoZero", "internal/bytealg.IndexByteString"], unfollowed := true, recurses := true, named := ["bellman/answer.statuses", "bellman/decimal.bases"], apart := false, laid := [("bellman/decimal.bases", laid_bellman_decimal_bases), ("bellman/answer.statuses", laid_bellman_answer_statuses)], narrowed := true }
def AnswerStreamUptoSaid : Prop := answerStreamUptoRow.holds Tryd.pinned (OpenSpec.upto answerStreamSpec)

/-- 'bellmanlaw14.AnswerStatuses', WHERE WHAT IT READS IS OF BULK AT MOST 1048576: true; the input reads as it did. -/
def answerStatusesUptoRow : OpenClaim := { program := "ytabgpnieekcdhaadoor", sum := "cfd88d582e2527be1d9ef435a3a5860231bc773078ef61326de74b2645d1b915", func := "bellman/bellmanlaw14.AnswerStatuses", spec := "answerStatuses", inPlace := ["internal/abi.NoEscape", "internal/bytealg.MakeNoZero", "internal/bytealg.IndexByteString"], unfollowed := true, recurses := true, named := ["bellman/answer.statuses", "bellman/decimal.bases"], apart := false, laid := [("bellman/decimal.bases", laid_bellman_decimal_bases), ("bellman/answer.statuses", laid_bellman_answer_statuses)], narrowed := true }
def AnswerStatusesUptoSaid : Prop := answerStatusesUptoRow.holds Tryd.pinned (OpenSpec.upto answerStatusesSpec)

/-- 'bellmanlaw14.AnswerHolds', WHERE WHAT IT READS IS OF BULK AT MOST 1048576: true; the input reads as it did. -/
def answerHoldsUptoRow : OpenClaim := { program := "ytabgpnieekcdhaadoor", sum := "cfd88d582e2527be1d9ef435a3a5860231bc773078ef61326de74b2645d1b915", func := "bellman/bellmanlaw14.AnswerHolds", spec := "answerHolds", inPlace := ["internal/abi.NoEscape", "internal/bytealg.MakeNoZero", "internal/bytealg.IndexByteString"], unfollowed := true, recurses := true, named := ["bellman/answer.statuses", "bellman/decimal.bases"], apart := false, laid := [("bellman/decimal.bases", laid_bellman_decimal_bases), ("bellman/answer.statuses", laid_bellman_answer_statuses)], narrowed := true }
def AnswerHoldsUptoSaid : Prop := answerHoldsUptoRow.holds Tryd.pinned (OpenSpec.upto answerHoldsSpec)

end Rows
end Go.Proofs.YtabgpnieekcdhaaDoor
