/-
  NARROWER THAN 'FOR EVERY INPUT', by the rows' own cells (each row's printed sentence says how): DecimalSums: laid · DecimalTexts: laid · DecimalParses: laid · DecimalEach: laid · DecimalHolds: laid.
  DERIVED. THE GIVEN ROWS OF THIS SEAT. 5 by the template 'for every input the law returns true; each argument reads behind the call as it read before'; 0 by the template 'total and deterministic' (their statements: YtjbcckmbpdahaaaDoorTotals.lean).
  GIVEN WITH THE SEED: the statements are not yours to turn. If you find one false, say at which input.
  Laid BY PROGRAM, IN A SANDBOX (cutbox-rows.mjs): the forced cells as the released guide's own fill.sh prints them over the translation 2e12e225faa2af57… (all of the seat's roots in one cut). By AI agents, Wed Nov 11 2026. No macro, syntax, notation, axiom, sorry.
-/
import Derived.Test.YtjbcckmbpdahaaaDoorChecked
import GoSem.PinnedTables
import GoSem.Claim
import GoSem.ClaimJoined
import GoSem.ClaimMapViews
import Derived.JoinedTies
import Derived.KernelRfl
namespace Go.Proofs.YtjbcckmbpdahaaaDoor
/- THE CELL 'sum', in the pinned program and in every row, IS THE sha256 OF THE DUMP (.gsa) THAT YtjbcckmbpdahaaaDoorProg.lean LOADS. Nothing in Lean hashes anything: it is a label: what it is worth is what the hold of that sum in a sandbox is worth. -/
noncomputable def Tryd.pinned : Pinned := { name := "ytjbcckmbpdahaaadoor", sum := "2e12e225faa2af57ce0144fba2a8f8622c2d03a4fa343e83e693cd8e1c732557", checked := Tryd.checked }
namespace Rows
def none {H : Type} : Left H := { results := [], args := [] }

/- WHAT THE LISTED PACKAGE-LEVEL VARIABLES READ AS WHEN THE CALL BEGINS. Each datum BY PROGRAM (the guide's laid-datum.mjs) off the statement by which the dump's own 'gosem.cut.vars' lays the variable. In a bare row this is a premise. The card (YtjbcckmbpdahaaaDoorCards.lean) ties it to the program's text. -/
def laid_bellman_decimal_bases {H : Type} : DataW H := .agg [.lit (.int .u64 10), .lit (.int .u64 16)]
def laid_unicode_utf8_acceptRanges {H : Type} : DataW H := .agg [.agg [.lit (.int .u8 128), .lit (.int .u8 191)], .agg [.lit (.int .u8 160), .lit (.int .u8 191)], .agg [.lit (.int .u8 128), .lit (.int .u8 159)], .agg [.lit (.int .u8 144), .lit (.int .u8 191)], .agg [.lit (.int .u8 128), .lit (.int .u8 143)], .agg [.lit (.int .u8 0), .lit (.int .u8 0)], .agg [.lit (.int .u8 0), .lit (.int .u8 0)], .agg [.lit (.int .u8 0), .lit (.int .u8 0)], .agg [.lit (.int .u8 0), .lit (.int .u8 0)], .agg [.lit (.int .u8 0), .lit (.int .u8 0)], .agg [.lit (.int .u8 0), .lit (.int .u8 0)], .agg [.lit (.int .u8 0), .lit (.int .u8 0)], .agg [.lit (.int .u8 0), .lit (.int .u8 0)], .agg [.lit (.int .u8 0), .lit (.int .u8 0)], .agg [.lit (.int .u8 0), .lit (.int .u8 0)], .agg [.lit (.int .u8 0), .lit (.int .u8 0)]]
/-- One of Go's own tables, pinned by name: the form's constant. -/
def laid_unicode_CaseRanges : DataW Unit := Go.Pinned.caseRanges
/-- One of Go's own tables, pinned by name: the form's constant. -/
def laid_unicode_utf8_first : DataW Unit := Go.Pinned.utf8First

/-- 'bellmanlaw01.DecimalSums': WHATEVER THE INPUT: true; the input reads as it did. -/
def decimalSumsSpec : ChangeSpec := { name := "decimalSums", fn := fun _ => fun
  | [d1, d2, d3, d4] => { results := [.lit (.bool true)], args := [d1, d2, d3, d4] }
  | _ => none }
def decimalSumsRow : OpenClaim := { program := "ytjbcckmbpdahaaadoor", sum := "2e12e225faa2af57ce0144fba2a8f8622c2d03a4fa343e83e693cd8e1c732557", func := "bellman/bellmanlaw01.DecimalSums", spec := "decimalSums", inPlace := ["math/bits.Add64"], unfollowed := true, recurses := true, named := ["bellman/decimal.bases"], apart := false, laid := [("bellman/decimal.bases", laid_bellman_decimal_bases)] }
def DecimalSumsSaid : Prop := decimalSumsRow.holds Tryd.pinned (OpenSpec.ofChange decimalSumsSpec)

/-- ITS FALSE NEIGHBOUR: 'it returns false'. Refute it at one input. -/
def decimalSumsWrong : ChangeSpec := { name := "decimalSums", fn := fun _ => fun
  | [d1, d2, d3, d4] => { results := [.lit (.bool false)], args := [d1, d2, d3, d4] }
  | _ => none }
def DecimalSumsWrongFalsely : Prop := decimalSumsRow.holds Tryd.pinned (OpenSpec.ofChange decimalSumsWrong)

/-- 'bellmanlaw01.DecimalTexts': WHATEVER THE INPUT: true; the input reads as it did. -/
def decimalTextsSpec : ChangeSpec := { name := "decimalTexts", fn := fun _ => fun
  | [d1, d2] => { results := [.lit (.bool true)], args := [d1, d2] }
  | _ => none }
def decimalTextsRow : OpenClaim := { program := "ytjbcckmbpdahaaadoor", sum := "2e12e225faa2af57ce0144fba2a8f8622c2d03a4fa343e83e693cd8e1c732557", func := "bellman/bellmanlaw01.DecimalTexts", spec := "decimalTexts", inPlace := ["math/bits.Add64", "internal/abi.NoEscape", "internal/bytealg.MakeNoZero"], unfollowed := true, recurses := true, named := ["bellman/decimal.bases", "unicode/utf8.first", "unicode/utf8.acceptRanges", "unicode.CaseRanges"], apart := false, laid := [("unicode/utf8.acceptRanges", laid_unicode_utf8_acceptRanges), ("bellman/decimal.bases", laid_bellman_decimal_bases), ("unicode.CaseRanges", laid_unicode_CaseRanges), ("unicode/utf8.first", laid_unicode_utf8_first)] }
def DecimalTextsSaid : Prop := decimalTextsRow.holds Tryd.pinned (OpenSpec.ofChange decimalTextsSpec)

/-- ITS FALSE NEIGHBOUR: 'it returns false'. Refute it at one input. -/
def decimalTextsWrong : ChangeSpec := { name := "decimalTexts", fn := fun _ => fun
  | [d1, d2] => { results := [.lit (.bool false)], args := [d1, d2] }
  | _ => none }
def DecimalTextsWrongFalsely : Prop := decimalTextsRow.holds Tryd.pinned (OpenSpec.ofChange decimalTextsWrong)

/-- 'bellmanlaw01.DecimalParses': WHATEVER THE INPUT: true; the input reads as it did. -/
def decimalParsesSpec : ChangeSpec := { name := "decimalParses", fn := fun _ => fun
  | [d] => { results := [.lit (.bool true)], args := [d] }
  | _ => none }
def decimalParsesRow : OpenClaim := { program := "ytjbcckmbpdahaaadoor", sum := "2e12e225faa2af57ce0144fba2a8f8622c2d03a4fa343e83e693cd8e1c732557", func := "bellman/bellmanlaw01.DecimalParses", spec := "decimalParses", inPlace := ["math/bits.Add64"], unfollowed := true, recurses := true, named := ["bellman/decimal.bases"], apart := false, laid := [("bellman/decimal.bases", laid_bellman_decimal_bases)] }
def DecimalParsesSaid : Prop := decimalParsesRow.holds Tryd.pinned (OpenSpec.ofChange decimalParsesSpec)

/-- ITS FALSE NEIGHBOUR: 'it returns false'. Refute it at one input. -/
def decimalParsesWrong : ChangeSpec := { name := "decimalParses", fn := fun _ => fun
  | [d] => { results := [.lit (.bool false)], args := [d] }
  | _ => none }
def DecimalParsesWrongFalsely : Prop := decimalParsesRow.holds Tryd.pinned (OpenSpec.ofChange decimalParsesWrong)

/-- 'bellmanlaw01.DecimalEach': WHATEVER THE INPUT: true; the input reads as it did. -/
def decimalEachSpec : ChangeSpec := { name := "decimalEach", fn := fun _ => fun
  | [d1, d2] => { results := [.lit (.bool true)], args := [d1, d2] }
  | _ => none }
def decimalEachRow : OpenClaim := { program := "ytjbcckmbpdahaaadoor", sum := "2e12e225faa2af57ce0144fba2a8f8622c2d03a4fa343e83e693cd8e1c732557", func := "bellman/bellmanlaw01.DecimalEach", spec := "decimalEach", inPlace := ["math/bits.Add64"], unfollowed := true, recurses := true, named := ["bellman/decimal.bases"], apart := false, laid := [("bellman/decimal.bases", laid_bellman_decimal_bases)] }
def DecimalEachSaid : Prop := decimalEachRow.holds Tryd.pinned (OpenSpec.ofChange decimalEachSpec)

/-- ITS FALSE NEIGHBOUR: 'it returns false'. Refute it at one input. -/
def decimalEachWrong : ChangeSpec := { name := "decimalEach", fn := fun _ => fun
  | [d1, d2] => { results := [.lit (.bool false)], args := [d1, d2] }
  | _ => none }
def DecimalEachWrongFalsely : Prop := decimalEachRow.holds Tryd.pinned (OpenSpec.ofChange decimalEachWrong)

/-- 'bellmanlaw01.DecimalHolds': WHATEVER THE INPUT: true; the input reads as it did. -/
def decimalHoldsSpec : ChangeSpec := { name := "decimalHolds", fn := fun _ => fun
  | [d1, d2] => { results := [.lit (.bool true)], args := [d1, d2] }
  | _ => none }
def decimalHoldsRow : OpenClaim := { program := "ytjbcckmbpdahaaadoor", sum := "2e12e225faa2af57ce0144fba2a8f8622c2d03a4fa343e83e693cd8e1c732557", func := "bellman/bellmanlaw01.DecimalHolds", spec := "decimalHolds", inPlace := ["math/bits.Add64"], unfollowed := true, recurses := true, named := ["bellman/decimal.bases"], apart := false, laid := [("bellman/decimal.bases", laid_bellman_decimal_bases)] }
def DecimalHoldsSaid : Prop := decimalHoldsRow.holds Tryd.pinned (OpenSpec.ofChange decimalHoldsSpec)

/-- ITS FALSE NEIGHBOUR: 'it returns false'. Refute it at one input. -/
def decimalHoldsWrong : ChangeSpec := { name := "decimalHolds", fn := fun _ => fun
  | [d1, d2] => { results := [.lit (.bool false)], args := [d1, d2] }
  | _ => none }
def DecimalHoldsWrongFalsely : Prop := decimalHoldsRow.holds Tryd.pinned (OpenSpec.ofChange decimalHoldsWrong)

/- THE SECOND FORM. 'bulk': how many values and letters a reading holds, each counted each time it is reached (what is shared counts as often as it is met; a slice's spare places count too). A statement '..UptoSaid' is the law's where the arguments, and the package variables that the reading takes, are together of bulk at most 1048576: NARROWER than '..Said'. Prove '..Said' where nothing that the law and all that it calls make is longer than what came in: it says more and counts as full. Else prove '..UptoSaid'. A law counts once. -/
mutual
def uptoBulk {H : Type} : DataW H → Nat
  | .lit (.string bytes) => bytes.length + 1
  | .lit _ => 1
  | .nil => 1
  | .ptr d => uptoBulk d + 1
  | .slice elems spare => uptoBulkAll elems + uptoBulkAll spare + 1
  | .agg parts => uptoBulkAll parts + 1
  | .iface _ d => uptoBulk d + 1
  | .map entries => uptoBulkEntries entries + 1
  | .held _ => 1
def uptoBulkAll {H : Type} : List (DataW H) → Nat
  | [] => 0
  | d :: r => uptoBulk d + uptoBulkAll r
def uptoBulkEntries {H : Type} : List (Lit × DataW H) → Nat
  | [] => 0
  | x :: r => uptoBulkEntry x + uptoBulkEntries r
def uptoBulkEntry {H : Type} : Lit × DataW H → Nat
  | (.string bytes, d) => bytes.length + uptoBulk d + 1
  | (_, d) => uptoBulk d + 1
 end
def uptoSmall : (H : Type) → List (DataW H) → Bool := fun _ ds => decide (uptoBulkAll ds ≤ 1048576)
def OpenSpec.upto (s : _root_.Go.ChangeSpec) : _root_.Go.OpenSpec := { _root_.Go.OpenSpec.ofChange s with cond := some uptoSmall }

/-- 'bellmanlaw01.DecimalSums', WHERE WHAT IT READS IS OF BULK AT MOST 1048576: true; the input reads as it did. -/
def decimalSumsUptoRow : OpenClaim := { program := "ytjbcckmbpdahaaadoor", sum := "2e12e225faa2af57ce0144fba2a8f8622c2d03a4fa343e83e693cd8e1c732557", func := "bellman/bellmanlaw01.DecimalSums", spec := "decimalSums", inPlace := ["math/bits.Add64"], unfollowed := true, recurses := true, named := ["bellman/decimal.bases"], apart := false, laid := [("bellman/decimal.bases", laid_bellman_decimal_bases)], narrowed := true }
def DecimalSumsUptoSaid : Prop := decimalSumsUptoRow.holds Tryd.pinned (OpenSpec.upto decimalSumsSpec)

/-- 'bellmanlaw01.DecimalTexts', WHERE WHAT IT READS IS OF BULK AT MOST 1048576: true; the input reads as it did. -/
def decimalTextsUptoRow : OpenClaim := { program := "ytjbcckmbpdahaaadoor", sum := "2e12e225faa2af57ce0144fba2a8f8622c2d03a4fa343e83e693cd8e1c732557", func := "bellman/bellmanlaw01.DecimalTexts", spec := "decimalTexts", inPlace := ["math/bits.Add64", "internal/abi.NoEscape", "internal/bytealg.MakeNoZero"], unfollowed := true, recurses := true, named := ["bellman/decimal.bases", "unicode/utf8.first", "unicode/utf8.acceptRanges", "unicode.CaseRanges"], apart := false, laid := [("unicode/utf8.acceptRanges", laid_unicode_utf8_acceptRanges), ("bellman/decimal.bases", laid_bellman_decimal_bases), ("unicode.CaseRanges", laid_unicode_CaseRanges), ("unicode/utf8.first", laid_unicode_utf8_first)], narrowed := true }
def DecimalTextsUptoSaid : Prop := decimalTextsUptoRow.holds Tryd.pinned (OpenSpec.upto decimalTextsSpec)

/-- 'bellmanlaw01.DecimalParses', WHERE WHAT IT READS IS OF BULK AT MOST 1048576: true; the input reads as it did. -/
def decimalParsesUptoRow : OpenClaim := { program := "ytjbcckmbpdahaaadoor", sum := "2e12e225faa2af57ce0144fba2a8f8622c2d03a4fa343e83e693cd8e1c732557", func := "bellman/bellmanlaw01.DecimalParses", spec := "decimalParses", inPlace := ["math/bits.Add64"], unfollowed := true, recurses := true, named := ["bellman/decimal.bases"], apart := false, laid := [("bellman/decimal.bases", laid_bellman_decimal_bases)], narrowed := true }
def DecimalParsesUptoSaid : Prop := decimalParsesUptoRow.holds Tryd.pinned (OpenSpec.upto decimalParsesSpec)

/-- 'bellmanlaw01.DecimalEach', WHERE WHAT IT READS IS OF BULK AT MOST 1048576: true; the input reads as it did. -/
def decimalEachUptoRow : OpenClaim := { program := "ytjbcckmbpdahaaadoor", sum := "2e12e225faa2af57ce0144fba2a8f8622c2d03a4fa343e83e693cd8e1c732557", func := "bellman/bellmanlaw01.DecimalEach", spec := "decimalEach", inPlace := ["math/bits.Add64"], unfollowed := true, recurses := true, named := ["bellman/decimal.bases"], apart := false, laid := [("bellman/decimal.bases", laid_bellman_decimal_bases)], narrowed := true }
def DecimalEachUptoSaid : Prop := decimalEachUptoRow.holds Tryd.pinned (OpenSpec.upto decimalEachSpec)

/-- 'bellmanlaw01.DecimalHolds', WHERE WHAT IT READS IS OF BULK AT MOST 1048576: true; the input reads as it did. -/
def decimalHoldsUptoRow : OpenClaim := { program := "ytjbcckmbpdahaaadoor", sum := "2e12e225faa2af57ce0144fba2a8f8622c2d03a4fa343e83e693cd8e1c732557", func := "bellman/bellmanlaw01.DecimalHolds", spec := "decimalHolds", inPlace := ["math/bits.Add64"], unfollowed := true, recurses := true, named := ["bellman/decimal.bases"], apart := false, laid := [("bellman/decimal.bases", laid_bellman_decimal_bases)], narrowed := true }
def DecimalHoldsUptoSaid : Prop := decimalHoldsUptoRow.holds Tryd.pinned (OpenSpec.upto decimalHoldsSpec)

end Rows
end Go.Proofs.YtjbcckmbpdahaaaDoor
