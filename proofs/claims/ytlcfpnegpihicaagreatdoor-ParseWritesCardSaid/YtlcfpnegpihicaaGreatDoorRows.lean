/-
  NARROWER THAN 'FOR EVERY INPUT', by the rows' own cells (each row's printed sentence says how): ParseOf: laid · ParseWrites: laid · ParsePieces: laid.
  DERIVED. THE GIVEN ROWS OF THIS SEAT. 3 by the template 'for every input the law returns true; each argument reads behind the call as it read before'; 0 by the template 'total and deterministic' (their statements: YtlcfpnegpihicaaGreatDoorTotals.lean).
  GIVEN WITH THE SEED: the statements are not yours to turn. If you find one false, say at which input.
  Laid BY PROGRAM, IN A SANDBOX (cutbox-rows.mjs): the forced cells as the released guide's own fill.sh prints them over the translation fc052df20e76454a… (all of the seat's roots in one cut). By AI agents, Wed Nov 11 2026. No macro, syntax, notation, axiom, sorry.
-/
import Derived.Test.YtlcfpnegpihicaaGreatDoorChecked
import GoSem.PinnedTables
import GoSem.Claim
import GoSem.ClaimJoined
import GoSem.ClaimMapViews
import Derived.JoinedTies
import Derived.KernelRfl
namespace Go.Proofs.YtlcfpnegpihicaaGreatDoor
/- THE CELL 'sum', in the pinned program and in every row, IS THE sha256 OF THE DUMP (.gsa) THAT YtlcfpnegpihicaaGreatDoorProg.lean LOADS. Nothing in Lean hashes anything: it is a label: what it is worth is what the hold of that sum in a sandbox is worth. -/
noncomputable def Tryz.pinned : Pinned := { name := "ytlcfpnegpihicaagreatdoor", sum := "fc052df20e76454a9ce5bcd25b74384047944cb5f22e6a07ce137bb306e1897e", checked := Tryz.checked }
namespace Rows
def none {H : Type} : Left H := { results := [], args := [] }

/- WHAT THE LISTED PACKAGE-LEVEL VARIABLES READ AS WHEN THE CALL BEGINS. Each datum BY PROGRAM (the guide's laid-datum.mjs) off the statement by which the dump's own 'gosem.cut.vars' lays the variable. In a bare row this is a premise. The card (YtlcfpnegpihicaaGreatDoorCards.lean) ties it to the program's text. -/
def laid_unicode_utf8_acceptRanges {H : Type} : DataW H := .agg [.agg [.lit (.int .u8 128), .lit (.int .u8 191)], .agg [.lit (.int .u8 160), .lit (.int .u8 191)], .agg [.lit (.int .u8 128), .lit (.int .u8 159)], .agg [.lit (.int .u8 144), .lit (.int .u8 191)], .agg [.lit (.int .u8 128), .lit (.int .u8 143)], .agg [.lit (.int .u8 0), .lit (.int .u8 0)], .agg [.lit (.int .u8 0), .lit (.int .u8 0)], .agg [.lit (.int .u8 0), .lit (.int .u8 0)], .agg [.lit (.int .u8 0), .lit (.int .u8 0)], .agg [.lit (.int .u8 0), .lit (.int .u8 0)], .agg [.lit (.int .u8 0), .lit (.int .u8 0)], .agg [.lit (.int .u8 0), .lit (.int .u8 0)], .agg [.lit (.int .u8 0), .lit (.int .u8 0)], .agg [.lit (.int .u8 0), .lit (.int .u8 0)], .agg [.lit (.int .u8 0), .lit (.int .u8 0)], .agg [.lit (.int .u8 0), .lit (.int .u8 0)]]
def laid_bellman_decimal_bases {H : Type} : DataW H := .agg [.lit (.int .u64 10), .lit (.int .u64 16)]
def laid_bellman_utf_leads {H : Type} : DataW H := .agg [.agg [.lit (.int .i64 0), .lit (.int .i64 127), .lit (.int .u8 0), .lit (.int .i64 0)], .agg [.lit (.int .i64 128), .lit (.int .i64 2047), .lit (.int .u8 192), .lit (.int .i64 1)], .agg [.lit (.int .i64 2048), .lit (.int .i64 4095), .lit (.int .u8 224), .lit (.int .i64 2)], .agg [.lit (.int .i64 4096), .lit (.int .i64 53247), .lit (.int .u8 224), .lit (.int .i64 2)], .agg [.lit (.int .i64 53248), .lit (.int .i64 55295), .lit (.int .u8 224), .lit (.int .i64 2)], .agg [.lit (.int .i64 57344), .lit (.int .i64 65535), .lit (.int .u8 224), .lit (.int .i64 2)], .agg [.lit (.int .i64 65536), .lit (.int .i64 262143), .lit (.int .u8 240), .lit (.int .i64 3)], .agg [.lit (.int .i64 262144), .lit (.int .i64 1048575), .lit (.int .u8 240), .lit (.int .i64 3)], .agg [.lit (.int .i64 1048576), .lit (.int .i64 1114111), .lit (.int .u8 240), .lit (.int .i64 3)]]
def laid_bellman_field_names {H : Type} : DataW H := .agg [.lit (.string []), .lit (.string [101, 110, 100]), .lit (.string [99, 111, 109, 109, 101, 110, 116]), .lit (.string [100, 97, 116, 97]), .lit (.string [101, 118, 101, 110, 116]), .lit (.string [105, 100]), .lit (.string [114, 101, 116, 114, 121]), .lit (.string [111, 116, 104, 101, 114])]
def laid_bellman_event_signs {H : Type} : DataW H := .agg [.lit (.int .u8 13), .lit (.int .u8 10), .lit (.int .u8 0)]
def laid_bellman_lines_ends {H : Type} : DataW H := .agg [.lit (.int .u8 13), .lit (.int .u8 10)]
def laid_bellman_parse_greatest {H : Type} : DataW H := .agg [.lit (.int .i64 65536), .lit (.int .i64 65536)]
/-- One of Go's own tables, pinned by name: the form's constant. -/
def laid_unicode_utf8_first : DataW Unit := Go.Pinned.utf8First

/-- 'bellmanlaw08.ParseOf': WHATEVER THE INPUT: true; the input reads as it did. -/
def parseOfSpec : ChangeSpec := { name := "parseOf", fn := fun _ => fun
  | [d1, d2, d3, d4] => { results := [.lit (.bool true)], args := [d1, d2, d3, d4] }
  | _ => none }
def parseOfRow : OpenClaim := { program := "ytlcfpnegpihicaagreatdoor", sum := "fc052df20e76454a9ce5bcd25b74384047944cb5f22e6a07ce137bb306e1897e", func := "bellman/bellmanlaw08.ParseOf", spec := "parseOf", inPlace := ["internal/bytealg.IndexByteString", "internal/bytealg.IndexString", "math/bits.Add64", "internal/bytealg.CountString"], unfollowed := true, recurses := true, named := ["bellman/parse.greatest", "internal/bytealg.MaxLen", "bellman/field.names", "bellman/decimal.bases", "bellman/utf.leads", "bellman/lines.ends", "unicode/utf8.first", "unicode/utf8.acceptRanges", "bellman/event.signs"], apart := false, laid := [("unicode/utf8.acceptRanges", laid_unicode_utf8_acceptRanges), ("bellman/decimal.bases", laid_bellman_decimal_bases), ("bellman/utf.leads", laid_bellman_utf_leads), ("bellman/field.names", laid_bellman_field_names), ("bellman/event.signs", laid_bellman_event_signs), ("bellman/lines.ends", laid_bellman_lines_ends), ("bellman/parse.greatest", laid_bellman_parse_greatest), ("unicode/utf8.first", laid_unicode_utf8_first)] }
def ParseOfSaid : Prop := parseOfRow.holds Tryz.pinned (OpenSpec.ofChange parseOfSpec)

/-- ITS FALSE NEIGHBOUR: 'it returns false'. Refute it at one input. -/
def parseOfWrong : ChangeSpec := { name := "parseOf", fn := fun _ => fun
  | [d1, d2, d3, d4] => { results := [.lit (.bool false)], args := [d1, d2, d3, d4] }
  | _ => none }
def ParseOfWrongFalsely : Prop := parseOfRow.holds Tryz.pinned (OpenSpec.ofChange parseOfWrong)

/-- 'bellmanlaw08.ParseWrites': WHATEVER THE INPUT: true; the input reads as it did. -/
def parseWritesSpec : ChangeSpec := { name := "parseWrites", fn := fun _ => fun
  | [d1, d2, d3, d4] => { results := [.lit (.bool true)], args := [d1, d2, d3, d4] }
  | _ => none }
def parseWritesRow : OpenClaim := { program := "ytlcfpnegpihicaagreatdoor", sum := "fc052df20e76454a9ce5bcd25b74384047944cb5f22e6a07ce137bb306e1897e", func := "bellman/bellmanlaw08.ParseWrites", spec := "parseWrites", inPlace := ["internal/bytealg.IndexByteString", "internal/bytealg.IndexString", "math/bits.Add64", "internal/bytealg.CountString"], unfollowed := true, recurses := true, named := ["bellman/parse.greatest", "internal/bytealg.MaxLen", "bellman/field.names", "bellman/decimal.bases", "bellman/utf.leads", "bellman/lines.ends", "unicode/utf8.first", "unicode/utf8.acceptRanges", "bellman/event.signs"], apart := false, laid := [("unicode/utf8.acceptRanges", laid_unicode_utf8_acceptRanges), ("bellman/decimal.bases", laid_bellman_decimal_bases), ("bellman/utf.leads", laid_bellman_utf_leads), ("bellman/field.names", laid_bellman_field_names), ("bellman/event.signs", laid_bellman_event_signs), ("bellman/lines.ends", laid_bellman_lines_ends), ("bellman/parse.greatest", laid_bellman_parse_greatest), ("unicode/utf8.first", laid_unicode_utf8_first)] }
def ParseWritesSaid : Prop := parseWritesRow.holds Tryz.pinned (OpenSpec.ofChange parseWritesSpec)

/-- ITS FALSE NEIGHBOUR: 'it returns false'. Refute it at one input. -/
def parseWritesWrong : ChangeSpec := { name := "parseWrites", fn := fun _ => fun
  | [d1, d2, d3, d4] => { results := [.lit (.bool false)], args := [d1, d2, d3, d4] }
  | _ => none }
def ParseWritesWrongFalsely : Prop := parseWritesRow.holds Tryz.pinned (OpenSpec.ofChange parseWritesWrong)

/-- 'bellmanlaw08.ParsePieces': WHATEVER THE INPUT: true; the input reads as it did. -/
def parsePiecesSpec : ChangeSpec := { name := "parsePieces", fn := fun _ => fun
  | [d1, d2, d3, d4] => { results := [.lit (.bool true)], args := [d1, d2, d3, d4] }
  | _ => none }
def parsePiecesRow : OpenClaim := { program := "ytlcfpnegpihicaagreatdoor", sum := "fc052df20e76454a9ce5bcd25b74384047944cb5f22e6a07ce137bb306e1897e", func := "bellman/bellmanlaw08.ParsePieces", spec := "parsePieces", inPlace := ["internal/bytealg.IndexByteString", "internal/bytealg.IndexString", "math/bits.Add64", "internal/bytealg.CountString"], unfollowed := true, recurses := true, named := ["bellman/parse.greatest", "internal/bytealg.MaxLen", "bellman/field.names", "bellman/decimal.bases", "bellman/utf.leads", "bellman/lines.ends", "unicode/utf8.first", "unicode/utf8.acceptRanges", "bellman/event.signs"], apart := false, laid := [("unicode/utf8.acceptRanges", laid_unicode_utf8_acceptRanges), ("bellman/decimal.bases", laid_bellman_decimal_bases), ("bellman/utf.leads", laid_bellman_utf_leads), ("bellman/field.names", laid_bellman_field_names), ("bellman/event.signs", laid_bellman_event_signs), ("bellman/lines.ends", laid_bellman_lines_ends), ("bellman/parse.greatest", laid_bellman_parse_greatest), ("unicode/utf8.first", laid_unicode_utf8_first)] }
def ParsePiecesSaid : Prop := parsePiecesRow.holds Tryz.pinned (OpenSpec.ofChange parsePiecesSpec)

/-- ITS FALSE NEIGHBOUR: 'it returns false'. Refute it at one input. -/
def parsePiecesWrong : ChangeSpec := { name := "parsePieces", fn := fun _ => fun
  | [d1, d2, d3, d4] => { results := [.lit (.bool false)], args := [d1, d2, d3, d4] }
  | _ => none }
def ParsePiecesWrongFalsely : Prop := parsePiecesRow.holds Tryz.pinned (OpenSpec.ofChange parsePiecesWrong)

/- THE SECOND FORM. 'bulk': how many values and letters a reading holds, each counted each time it is reached (what is shared counts as often as it is met; a slice's spare places count too). A statement '..UptoSaid' is the law's where the arguments, and the package variables that the reading takes, are together of bulk at most 1048576: NARROWER than '..Said'. Prove '..Said' where nothing that the law and all that it calls make is longer than what came in: it says more and counts as full. Else prove '..UptoSaid'. A law counts once. -/
mutual
def uptoBulk {H : Type} : DataW H → Nat
  | .lit (.string bytes) => bytes.length + 1
  | .lit _ => 1
  | .nil => 1
  | .ptr d => uptoBulk d + 1
  | .slice elems spare => uptoBulkAll elems + uptoBulkAll spare + 1
  | .agg parts => uptoBulkAll parts + 1
  | .iface _ d => uptoBulk d + 1
  | .map entries => uptoBulkEntries entries + 1
  | .held _ => 1
def uptoBulkAll {H : Type} : List (DataW H) → Nat
  | [] => 0
  | d :: r => uptoBulk d + uptoBulkAll r
def uptoBulkEntries {H : Type} : List (Lit × DataW H) → Nat
  | [] => 0
  | x :: r => uptoBulkEntry x + uptoBulkEntries r
def uptoBulkEntry {H : Type} : Lit × DataW H → Nat
  | (.string bytes, d) => bytes.length + uptoBulk d + 1
  | (_, d) => uptoBulk d + 1
 end
def uptoSmall : (H : Type) → List (DataW H) → Bool := fun _ ds => decide (uptoBulkAll ds ≤ 1048576)
def OpenSpec.upto (s : _root_.Go.ChangeSpec) : _root_.Go.OpenSpec := { _root_.Go.OpenSpec.ofChange s with cond := some uptoSmall }

/-- 'bellmanlaw08.ParseOf', WHERE WHAT IT READS IS OF BULK AT MOST 1048576: true; the input reads as it did. -/
def parseOfUptoRow : OpenClaim := { program := "ytlcfpnegpihicaagreatdoor", sum := "fc052df20e76454a9ce5bcd25b74384047944cb5f22e6a07ce137bb306e1897e", func := "bellman/bellmanlaw08.ParseOf", spec := "parseOf", inPlace := ["internal/bytealg.IndexByteString", "internal/bytealg.IndexString", "math/bits.Add64", "internal/bytealg.CountString"], unfollowed := true, recurses := true, named := ["bellman/parse.greatest", "internal/bytealg.MaxLen", "bellman/field.names", "bellman/decimal.bases", "bellman/utf.leads", "bellman/lines.ends", "unicode/utf8.first", "unicode/utf8.acceptRanges", "bellman/event.signs"], apart := false, laid := [("unicode/utf8.acceptRanges", laid_unicode_utf8_acceptRanges), ("bellman/decimal.bases", laid_bellman_decimal_bases), ("bellman/utf.leads", laid_bellman_utf_leads), ("bellman/field.names", laid_bellman_field_names), ("bellman/event.signs", laid_bellman_event_signs), ("bellman/lines.ends", laid_bellman_lines_ends), ("bellman/parse.greatest", laid_bellman_parse_greatest), ("unicode/utf8.first", laid_unicode_utf8_first)], narrowed := true }
def ParseOfUptoSaid : Prop := parseOfUptoRow.holds Tryz.pinned (OpenSpec.upto parseOfSpec)

/-- 'bellmanlaw08.ParseWrites', WHERE WHAT IT READS IS OF BULK AT MOST 1048576: true; the input reads as it did. -/
def parseWritesUptoRow : OpenClaim := { program := "ytlcfpnegpihicaagreatdoor", sum := "fc052df20e76454a9ce5bcd25b74384047944cb5f22e6a07ce137bb306e1897e", func := "bellman/bellmanlaw08.ParseWrites", spec := "parseWrites", inPlace := ["internal/bytealg.IndexByteString", "internal/bytealg.IndexString", "math/bits.Add64", "internal/bytealg.CountString"], unfollowed := true, recurses := true, named := ["bellman/parse.greatest", "internal/bytealg.MaxLen", "bellman/field.names", "bellman/decimal.bases", "bellman/utf.leads", "bellman/lines.ends", "unicode/utf8.first", "unicode/utf8.acceptRanges", "bellman/event.signs"], apart := false, laid := [("unicode/utf8.acceptRanges", laid_unicode_utf8_acceptRanges), ("bellman/decimal.bases", laid_bellman_decimal_bases), ("bellman/utf.leads", laid_bellman_utf_leads), ("bellman/field.names", laid_bellman_field_names), ("bellman/event.signs", laid_bellman_event_signs), ("bellman/lines.ends", laid_bellman_lines_ends), ("bellman/parse.greatest", laid_bellman_parse_greatest), ("unicode/utf8.first", laid_unicode_utf8_first)], narrowed := true }
def ParseWritesUptoSaid : Prop := parseWritesUptoRow.holds Tryz.pinned (OpenSpec.upto parseWritesSpec)

/-- 'bellmanlaw08.ParsePieces', WHERE WHAT IT READS IS OF BULK AT MOST 1048576: true; the input reads as it did. -/
def parsePiecesUptoRow : OpenClaim := { program := "ytlcfpnegpihicaagreatdoor", sum := "fc052df20e76454a9ce5bcd25b74384047944cb5f22e6a07ce137bb306e1897e", func := "bellman/bellmanlaw08.ParsePieces", spec := "parsePieces", inPlace := ["internal/bytealg.IndexByteString", "internal/bytealg.IndexString", "math/bits.Add64", "internal/bytealg.CountString"], unfollowed := true, recurses := true, named := ["bellman/parse.greatest", "internal/bytealg.MaxLen", "bellman/field.names", "bellman/decimal.bases", "bellman/utf.leads", "bellman/lines.ends", "unicode/utf8.first", "unicode/utf8.acceptRanges", "bellman/event.signs"], apart := false, laid := [("unicode/utf8.acceptRanges", laid_unicode_utf8_acceptRanges), ("bellman/decimal.bases", laid_bellman_decimal_bases), ("bellman/utf.leads", laid_bellman_utf_leads), ("bellman/field.names", laid_bellman_field_names), ("bellman/event.signs", laid_bellman_event_signs), ("bellman/lines.ends", laid_bellman_lines_ends), ("bellman/parse.greatest", laid_bellman_parse_greatest), ("unicode/utf8.first", laid_unicode_utf8_first)], narrowed := true }
def ParsePiecesUptoSaid : Prop := parsePiecesUptoRow.holds Tryz.pinned (OpenSpec.upto parsePiecesSpec)

end Rows
end Go.Proofs.YtlcfpnegpihicaaGreatDoor
