/-
  NARROWER THAN 'FOR EVERY INPUT', by the rows' own cells (each row's printed sentence says how): DecimalTexts: laid · DecimalParses: laid · UtfOf: laid · FieldOf: laid · FieldLine: laid · EventBounds: laid.
  DERIVED. THE GIVEN ROWS OF THIS SEAT. 6 by the template 'for every input the law returns true; each argument reads behind the call as it read before'; 0 by the template 'total and deterministic' (their statements: YtlbiniibkbhghaaDoorTotals.lean).
  GIVEN WITH THE SEED: the statements are not yours to turn. If you find one false, say at which input.
  Laid BY PROGRAM, IN A SANDBOX (cutbox-rows.mjs): the forced cells as the released guide's own fill.sh prints them over the translation 6cddf9271e88fe3a… (all of the seat's roots in one cut). By AI agents, Wed Nov 11 2026. No macro, syntax, notation, axiom, sorry.
-/
import Derived.Test.YtlbiniibkbhghaaDoorChecked
import GoSem.PinnedTables
import GoSem.Claim
import GoSem.ClaimJoined
import GoSem.ClaimMapViews
import Derived.JoinedTies
import Derived.KernelRfl
namespace Go.Proofs.YtlbiniibkbhghaaDoor
/- THE CELL 'sum', in the pinned program and in every row, IS THE sha256 OF THE DUMP (.gsa) THAT YtlbiniibkbhghaaDoorProg.lean LOADS. Nothing in Lean hashes anything: it is a label: what it is worth is what the hold of that sum in a sandbox is worth. -/
noncomputable def Tryd.pinned : Pinned := { name := "ytlbiniibkbhghaadoor", sum := "6cddf9271e88fe3a0343407e91aa68415265952ea0b23ea327474b93a8752f5c", checked := Tryd.checked }
namespace Rows
def none {H : Type} : Left H := { results := [], args := [] }

/- WHAT THE LISTED PACKAGE-LEVEL VARIABLES READ AS WHEN THE CALL BEGINS. Each datum BY PROGRAM (the guide's laid-datum.mjs) off the statement by which the dump's own 'gosem.cut.vars' lays the variable. In a bare row this is a premise. The card (YtlbiniibkbhghaaDoorCards.lean) ties it to the program's text. -/
def laid_unicode_utf8_acceptRanges {H : Type} : DataW H := .agg [.agg [.lit (.int .u8 128), .lit (.int .u8 191)], .agg [.lit (.int .u8 160), .lit (.int .u8 191)], .agg [.lit (.int .u8 128), .lit (.int .u8 159)], .agg [.lit (.int .u8 144), .lit (.int .u8 191)], .agg [.lit (.int .u8 128), .lit (.int .u8 143)], .agg [.lit (.int .u8 0), .lit (.int .u8 0)], .agg [.lit (.int .u8 0), .lit (.int .u8 0)], .agg [.lit (.int .u8 0), .lit (.int .u8 0)], .agg [.lit (.int .u8 0), .lit (.int .u8 0)], .agg [.lit (.int .u8 0), .lit (.int .u8 0)], .agg [.lit (.int .u8 0), .lit (.int .u8 0)], .agg [.lit (.int .u8 0), .lit (.int .u8 0)], .agg [.lit (.int .u8 0), .lit (.int .u8 0)], .agg [.lit (.int .u8 0), .lit (.int .u8 0)], .agg [.lit (.int .u8 0), .lit (.int .u8 0)], .agg [.lit (.int .u8 0), .lit (.int .u8 0)]]
def laid_bellman_decimal_bases {H : Type} : DataW H := .agg [.lit (.int .u64 10), .lit (.int .u64 16)]
/-- One of Go's own tables, pinned by name: the form's constant. -/
def laid_unicode_CaseRanges : DataW Unit := Go.Pinned.caseRanges
/-- One of Go's own tables, pinned by name: the form's constant. -/
def laid_unicode_utf8_first : DataW Unit := Go.Pinned.utf8First
def laid_bellman_utf_leads {H : Type} : DataW H := .agg [.agg [.lit (.int .i64 0), .lit (.int .i64 127), .lit (.int .u8 0), .lit (.int .i64 0)], .agg [.lit (.int .i64 128), .lit (.int .i64 2047), .lit (.int .u8 192), .lit (.int .i64 1)], .agg [.lit (.int .i64 2048), .lit (.int .i64 4095), .lit (.int .u8 224), .lit (.int .i64 2)], .agg [.lit (.int .i64 4096), .lit (.int .i64 53247), .lit (.int .u8 224), .lit (.int .i64 2)], .agg [.lit (.int .i64 53248), .lit (.int .i64 55295), .lit (.int .u8 224), .lit (.int .i64 2)], .agg [.lit (.int .i64 57344), .lit (.int .i64 65535), .lit (.int .u8 224), .lit (.int .i64 2)], .agg [.lit (.int .i64 65536), .lit (.int .i64 262143), .lit (.int .u8 240), .lit (.int .i64 3)], .agg [.lit (.int .i64 262144), .lit (.int .i64 1048575), .lit (.int .u8 240), .lit (.int .i64 3)], .agg [.lit (.int .i64 1048576), .lit (.int .i64 1114111), .lit (.int .u8 240), .lit (.int .i64 3)]]
def laid_bellman_field_names {H : Type} : DataW H := .agg [.lit (.string []), .lit (.string [101, 110, 100]), .lit (.string [99, 111, 109, 109, 101, 110, 116]), .lit (.string [100, 97, 116, 97]), .lit (.string [101, 118, 101, 110, 116]), .lit (.string [105, 100]), .lit (.string [114, 101, 116, 114, 121]), .lit (.string [111, 116, 104, 101, 114])]
def laid_bellman_event_signs {H : Type} : DataW H := .agg [.lit (.int .u8 13), .lit (.int .u8 10), .lit (.int .u8 0)]

/-- 'bellmanlaw01.DecimalTexts': WHATEVER THE INPUT: true; the input reads as it did. -/
def decimalTextsSpec : ChangeSpec := { name := "decimalTexts", fn := fun _ => fun
  | [d1, d2] => { results := [.lit (.bool true)], args := [d1, d2] }
  | _ => none }
def decimalTextsRow : OpenClaim := { program := "ytlbiniibkbhghaadoor", sum := "6cddf9271e88fe3a0343407e91aa68415265952ea0b23ea327474b93a8752f5c", func := "bellman/bellmanlaw01.DecimalTexts", spec := "decimalTexts", inPlace := ["math/bits.Add64", "internal/abi.NoEscape", "internal/bytealg.MakeNoZero"], unfollowed := true, recurses := true, named := ["bellman/decimal.bases", "unicode/utf8.first", "unicode/utf8.acceptRanges", "unicode.CaseRanges"], apart := false, laid := [("unicode/utf8.acceptRanges", laid_unicode_utf8_acceptRanges), ("bellman/decimal.bases", laid_bellman_decimal_bases), ("unicode.CaseRanges", laid_unicode_CaseRanges), ("unicode/utf8.first", laid_unicode_utf8_first)] }
def DecimalTextsSaid : Prop := decimalTextsRow.holds Tryd.pinned (OpenSpec.ofChange decimalTextsSpec)

/-- ITS FALSE NEIGHBOUR: 'it returns false'. Refute it at one input. -/
def decimalTextsWrong : ChangeSpec := { name := "decimalTexts", fn := fun _ => fun
  | [d1, d2] => { results := [.lit (.bool false)], args := [d1, d2] }
  | _ => none }
def DecimalTextsWrongFalsely : Prop := decimalTextsRow.holds Tryd.pinned (OpenSpec.ofChange decimalTextsWrong)

/-- 'bellmanlaw01.DecimalParses': WHATEVER THE INPUT: true; the input reads as it did. -/
def decimalParsesSpec : ChangeSpec := { name := "decimalParses", fn := fun _ => fun
  | [d] => { results := [.lit (.bool true)], args := [d] }
  | _ => none }
def decimalParsesRow : OpenClaim := { program := "ytlbiniibkbhghaadoor", sum := "6cddf9271e88fe3a0343407e91aa68415265952ea0b23ea327474b93a8752f5c", func := "bellman/bellmanlaw01.DecimalParses", spec := "decimalParses", inPlace := ["math/bits.Add64"], unfollowed := true, recurses := true, named := ["bellman/decimal.bases"], apart := false, laid := [("bellman/decimal.bases", laid_bellman_decimal_bases)] }
def DecimalParsesSaid : Prop := decimalParsesRow.holds Tryd.pinned (OpenSpec.ofChange decimalParsesSpec)

/-- ITS FALSE NEIGHBOUR: 'it returns false'. Refute it at one input. -/
def decimalParsesWrong : ChangeSpec := { name := "decimalParses", fn := fun _ => fun
  | [d] => { results := [.lit (.bool false)], args := [d] }
  | _ => none }
def DecimalParsesWrongFalsely : Prop := decimalParsesRow.holds Tryd.pinned (OpenSpec.ofChange decimalParsesWrong)

/-- 'bellmanlaw04.UtfOf': WHATEVER THE INPUT: true; the input reads as it did. -/
def utfOfSpec : ChangeSpec := { name := "utfOf", fn := fun _ => fun
  | [d] => { results := [.lit (.bool true)], args := [d] }
  | _ => none }
def utfOfRow : OpenClaim := { program := "ytlbiniibkbhghaadoor", sum := "6cddf9271e88fe3a0343407e91aa68415265952ea0b23ea327474b93a8752f5c", func := "bellman/bellmanlaw04.UtfOf", spec := "utfOf", unfollowed := true, recurses := true, named := ["bellman/utf.leads"], apart := false, laid := [("bellman/utf.leads", laid_bellman_utf_leads)] }
def UtfOfSaid : Prop := utfOfRow.holds Tryd.pinned (OpenSpec.ofChange utfOfSpec)

/-- ITS FALSE NEIGHBOUR: 'it returns false'. Refute it at one input. -/
def utfOfWrong : ChangeSpec := { name := "utfOf", fn := fun _ => fun
  | [d] => { results := [.lit (.bool false)], args := [d] }
  | _ => none }
def UtfOfWrongFalsely : Prop := utfOfRow.holds Tryd.pinned (OpenSpec.ofChange utfOfWrong)

/-- 'bellmanlaw06.FieldOf': WHATEVER THE INPUT: true; the input reads as it did. -/
def fieldOfSpec : ChangeSpec := { name := "fieldOf", fn := fun _ => fun
  | [d] => { results := [.lit (.bool true)], args := [d] }
  | _ => none }
def fieldOfRow : OpenClaim := { program := "ytlbiniibkbhghaadoor", sum := "6cddf9271e88fe3a0343407e91aa68415265952ea0b23ea327474b93a8752f5c", func := "bellman/bellmanlaw06.FieldOf", spec := "fieldOf", inPlace := ["internal/bytealg.IndexByteString", "internal/bytealg.IndexString", "math/bits.Add64", "internal/abi.NoEscape", "internal/bytealg.MakeNoZero"], unfollowed := true, recurses := true, named := ["internal/bytealg.MaxLen", "bellman/field.names", "bellman/decimal.bases"], apart := false, laid := [("bellman/decimal.bases", laid_bellman_decimal_bases), ("bellman/field.names", laid_bellman_field_names)] }
def FieldOfSaid : Prop := fieldOfRow.holds Tryd.pinned (OpenSpec.ofChange fieldOfSpec)

/-- ITS FALSE NEIGHBOUR: 'it returns false'. Refute it at one input. -/
def fieldOfWrong : ChangeSpec := { name := "fieldOf", fn := fun _ => fun
  | [d] => { results := [.lit (.bool false)], args := [d] }
  | _ => none }
def FieldOfWrongFalsely : Prop := fieldOfRow.holds Tryd.pinned (OpenSpec.ofChange fieldOfWrong)

/-- 'bellmanlaw06.FieldLine': WHATEVER THE INPUT: true; the input reads as it did. -/
def fieldLineSpec : ChangeSpec := { name := "fieldLine", fn := fun _ => fun
  | [d] => { results := [.lit (.bool true)], args := [d] }
  | _ => none }
def fieldLineRow : OpenClaim := { program := "ytlbiniibkbhghaadoor", sum := "6cddf9271e88fe3a0343407e91aa68415265952ea0b23ea327474b93a8752f5c", func := "bellman/bellmanlaw06.FieldLine", spec := "fieldLine", inPlace := ["internal/bytealg.IndexByteString", "internal/bytealg.IndexString", "math/bits.Add64", "internal/abi.NoEscape", "internal/bytealg.MakeNoZero"], unfollowed := true, recurses := true, named := ["internal/bytealg.MaxLen", "bellman/field.names", "bellman/decimal.bases"], apart := false, laid := [("bellman/decimal.bases", laid_bellman_decimal_bases), ("bellman/field.names", laid_bellman_field_names)] }
def FieldLineSaid : Prop := fieldLineRow.holds Tryd.pinned (OpenSpec.ofChange fieldLineSpec)

/-- ITS FALSE NEIGHBOUR: 'it returns false'. Refute it at one input. -/
def fieldLineWrong : ChangeSpec := { name := "fieldLine", fn := fun _ => fun
  | [d] => { results := [.lit (.bool false)], args := [d] }
  | _ => none }
def FieldLineWrongFalsely : Prop := fieldLineRow.holds Tryd.pinned (OpenSpec.ofChange fieldLineWrong)

/-- 'bellmanlaw07.EventBounds': WHATEVER THE INPUT: true; the input reads as it did. -/
def eventBoundsSpec : ChangeSpec := { name := "eventBounds", fn := fun _ => fun
  | [d1, d2] => { results := [.lit (.bool true)], args := [d1, d2] }
  | _ => none }
def eventBoundsRow : OpenClaim := { program := "ytlbiniibkbhghaadoor", sum := "6cddf9271e88fe3a0343407e91aa68415265952ea0b23ea327474b93a8752f5c", func := "bellman/bellmanlaw07.EventBounds", spec := "eventBounds", inPlace := ["internal/bytealg.CountString", "internal/bytealg.IndexByteString", "internal/bytealg.IndexString", "internal/abi.NoEscape", "internal/bytealg.MakeNoZero", "math/bits.Add64"], unfollowed := true, recurses := true, named := ["unicode/utf8.first", "unicode/utf8.acceptRanges", "internal/bytealg.MaxLen", "bellman/event.signs", "bellman/utf.leads", "bellman/field.names", "bellman/decimal.bases"], apart := false, laid := [("unicode/utf8.acceptRanges", laid_unicode_utf8_acceptRanges), ("bellman/decimal.bases", laid_bellman_decimal_bases), ("bellman/utf.leads", laid_bellman_utf_leads), ("bellman/field.names", laid_bellman_field_names), ("bellman/event.signs", laid_bellman_event_signs), ("unicode/utf8.first", laid_unicode_utf8_first)] }
def EventBoundsSaid : Prop := eventBoundsRow.holds Tryd.pinned (OpenSpec.ofChange eventBoundsSpec)

/-- ITS FALSE NEIGHBOUR: 'it returns false'. Refute it at one input. -/
def eventBoundsWrong : ChangeSpec := { name := "eventBounds", fn := fun _ => fun
  | [d1, d2] => { results := [.lit (.bool false)], args := [d1, d2] }
  | _ => none }
def EventBoundsWrongFalsely : Prop := eventBoundsRow.holds Tryd.pinned (OpenSpec.ofChange eventBoundsWrong)

/- THE SECOND FORM. 'bulk': how many values and letters a reading holds, each counted each time it is reached (what is shared counts as often as it is met; a slice's spare places count too). A statement '..UptoSaid' is the law's where the arguments, and the package variables that the reading takes, are together of bulk at most 1048576: NARROWER than '..Said'. Prove '..Said' where nothing that the law and all that it calls make is longer than what came in: it says more and counts as full. Else prove '..UptoSaid'. A law counts once. -/
mutual
def uptoBulk {H : Type} : DataW H → Nat
  | .lit (.string bytes) => bytes.length + 1
  | .lit _ => 1
  | .nil => 1
  | .ptr d => uptoBulk d + 1
  | .slice elems spare => uptoBulkAll elems + uptoBulkAll spare + 1
  | .agg parts => uptoBulkAll parts + 1
  | .iface _ d => uptoBulk d + 1
  | .map entries => uptoBulkEntries entries + 1
  | .held _ => 1
def uptoBulkAll {H : Type} : List (DataW H) → Nat
  | [] => 0
  | d :: r => uptoBulk d + uptoBulkAll r
def uptoBulkEntries {H : Type} : List (Lit × DataW H) → Nat
  | [] => 0
  | x :: r => uptoBulkEntry x + uptoBulkEntries r
def uptoBulkEntry {H : Type} : Lit × DataW H → Nat
  | (.string bytes, d) => bytes.length + uptoBulk d + 1
  | (_, d) => uptoBulk d + 1
 end
def uptoSmall : (H : Type) → List (DataW H) → Bool := fun _ ds => decide (uptoBulkAll ds ≤ 1048576)
def OpenSpec.upto (s : _root_.Go.ChangeSpec) : _root_.Go.OpenSpec := { _root_.Go.OpenSpec.ofChange s with cond := some uptoSmall }

/-- 'bellmanlaw01.DecimalTexts', WHERE WHAT IT READS IS OF BULK AT MOST 1048576: true; the input reads as it did. -/
def decimalTextsUptoRow : OpenClaim := { program := "ytlbiniibkbhghaadoor", sum := "6cddf9271e88fe3a0343407e91aa68415265952ea0b23ea327474b93a8752f5c", func := "bellman/bellmanlaw01.DecimalTexts", spec := "decimalTexts", inPlace := ["math/bits.Add64", "internal/abi.NoEscape", "internal/bytealg.MakeNoZero"], unfollowed := true, recurses := true, named := ["bellman/decimal.bases", "unicode/utf8.first", "unicode/utf8.acceptRanges", "unicode.CaseRanges"], apart := false, laid := [("unicode/utf8.acceptRanges", laid_unicode_utf8_acceptRanges), ("bellman/decimal.bases", laid_bellman_decimal_bases), ("unicode.CaseRanges", laid_unicode_CaseRanges), ("unicode/utf8.first", laid_unicode_utf8_first)], narrowed := true }
def DecimalTextsUptoSaid : Prop := decimalTextsUptoRow.holds Tryd.pinned (OpenSpec.upto decimalTextsSpec)

/-- 'bellmanlaw01.DecimalParses', WHERE WHAT IT READS IS OF BULK AT MOST 1048576: true; the input reads as it did. -/
def decimalParsesUptoRow : OpenClaim := { program := "ytlbiniibkbhghaadoor", sum := "6cddf9271e88fe3a0343407e91aa68415265952ea0b23ea327474b93a8752f5c", func := "bellman/bellmanlaw01.DecimalParses", spec := "decimalParses", inPlace := ["math/bits.Add64"], unfollowed := true, recurses := true, named := ["bellman/decimal.bases"], apart := false, laid := [("bellman/decimal.bases", laid_bellman_decimal_bases)], narrowed := true }
def DecimalParsesUptoSaid : Prop := decimalParsesUptoRow.holds Tryd.pinned (OpenSpec.upto decimalParsesSpec)

/-- 'bellmanlaw04.UtfOf', WHERE WHAT IT READS IS OF BULK AT MOST 1048576: true; the input reads as it did. -/
def utfOfUptoRow : OpenClaim := { program := "ytlbiniibkbhghaadoor", sum := "6cddf9271e88fe3a0343407e91aa68415265952ea0b23ea327474b93a8752f5c", func := "bellman/bellmanlaw04.UtfOf", spec := "utfOf", unfollowed := true, recurses := true, named := ["bellman/utf.leads"], apart := false, laid := [("bellman/utf.leads", laid_bellman_utf_leads)], narrowed := true }
def UtfOfUptoSaid : Prop := utfOfUptoRow.holds Tryd.pinned (OpenSpec.upto utfOfSpec)

/-- 'bellmanlaw06.FieldOf', WHERE WHAT IT READS IS OF BULK AT MOST 1048576: true; the input reads as it did. -/
def fieldOfUptoRow : OpenClaim := { program := "ytlbiniibkbhghaadoor", sum := "6cddf9271e88fe3a0343407e91aa68415265952ea0b23ea327474b93a8752f5c", func := "bellman/bellmanlaw06.FieldOf", spec := "fieldOf", inPlace := ["internal/bytealg.IndexByteString", "internal/bytealg.IndexString", "math/bits.Add64", "internal/abi.NoEscape", "internal/bytealg.MakeNoZero"], unfollowed := true, recurses := true, named := ["internal/bytealg.MaxLen", "bellman/field.names", "bellman/decimal.bases"], apart := false, laid := [("bellman/decimal.bases", laid_bellman_decimal_bases), ("bellman/field.names", laid_bellman_field_names)], narrowed := true }
def FieldOfUptoSaid : Prop := fieldOfUptoRow.holds Tryd.pinned (OpenSpec.upto fieldOfSpec)

/-- 'bellmanlaw06.FieldLine', WHERE WHAT IT READS IS OF BULK AT MOST 1048576: true; the input reads as it did. -/
def fieldLineUptoRow : OpenClaim := { program := "ytlbiniibkbhghaadoor", sum := "6cddf9271e88fe3a0343407e91aa68415265952ea0b23ea327474b93a8752f5c", func := "bellman/bellmanlaw06.FieldLine", spec := "fieldLine", inPlace := ["internal/bytealg.IndexByteString", "internal/bytealg.IndexString", "math/bits.Add64", "internal/abi.NoEscape", "internal/bytealg.MakeNoZero"], unfollowed := true, recurses := true, named := ["internal/bytealg.MaxLen", "bellman/field.names", "bellman/decimal.bases"], apart := false, laid := [("bellman/decimal.bases", laid_bellman_decimal_bases), ("bellman/field.names", laid_bellman_field_names)], narrowed := true }
def FieldLineUptoSaid : Prop := fieldLineUptoRow.holds Tryd.pinned (OpenSpec.upto fieldLineSpec)

/-- 'bellmanlaw07.EventBounds', WHERE WHAT IT READS IS OF BULK AT MOST 1048576: true; the input reads as it did. -/
def eventBoundsUptoRow : OpenClaim := { program := "ytlbiniibkbhghaadoor", sum := "6cddf9271e88fe3a0343407e91aa68415265952ea0b23ea327474b93a8752f5c", func := "bellman/bellmanlaw07.EventBounds", spec := "eventBounds", inPlace := ["internal/bytealg.CountString", "internal/bytealg.IndexByteString", "internal/bytealg.IndexString", "internal/abi.NoEscape", "internal/bytealg.MakeNoZero", "math/bits.Add64"], unfollowed := true, recurses := true, named := ["unicode/utf8.first", "unicode/utf8.acceptRanges", "internal/bytealg.MaxLen", "bellman/event.signs", "bellman/utf.leads", "bellman/field.names", "bellman/decimal.bases"], apart := false, laid := [("unicode/utf8.acceptRanges", laid_unicode_utf8_acceptRanges), ("bellman/decimal.bases", laid_bellman_decimal_bases), ("bellman/utf.leads", laid_bellman_utf_leads), ("bellman/field.names", laid_bellman_field_names), ("bellman/event.signs", laid_bellman_event_signs), ("unicode/utf8.first", laid_unicode_utf8_first)], narrowed := true }
def EventBoundsUptoSaid : Prop := eventBoundsUptoRow.holds Tryd.pinned (OpenSpec.upto eventBoundsSpec)

end Rows
end Go.Proofs.YtlbiniibkbhghaaDoor
