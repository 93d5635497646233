/-
  NARROWER THAN 'FOR EVERY INPUT', by the rows' own cells (each row's printed sentence says how): UtfOf: laid · UtfPoints: laid · UtfEach: laid · UtfWrites: laid · UtfHolds: laid · LinesOf: laid · LinesWrite: laid · LinesHold: laid.
  DERIVED. THE GIVEN ROWS OF THIS SEAT. 8 by the template 'for every input the law returns true; each argument reads behind the call as it read before'; 0 by the template 'total and deterministic' (their statements: YthdmmlaahjgijaaDoorTotals.lean).
  GIVEN WITH THE SEED: the statements are not yours to turn. If you find one false, say at which input.
  Laid BY PROGRAM, IN A SANDBOX (cutbox-rows.mjs): the forced cells as the released guide's own fill.sh prints them over the translation 4844f17810614f2d… (all of the seat's roots in one cut). By AI agents, Wed Nov 11 2026. No macro, syntax, notation, axiom, sorry.
-/
import Derived.Test.YthdmmlaahjgijaaDoorChecked
import GoSem.Claim
import GoSem.ClaimJoined
import GoSem.ClaimMapViews
import Derived.JoinedTies
import Derived.KernelRfl
namespace Go.Proofs.YthdmmlaahjgijaaDoor
/- THE CELL 'sum', in the pinned program and in every row, IS THE sha256 OF THE DUMP (.gsa) THAT YthdmmlaahjgijaaDoorProg.lean LOADS. Nothing in Lean hashes anything: it is a label: what it is worth is what the hold of that sum in a sandbox is worth. -/
noncomputable def Tryd.pinned : Pinned := { name := "ythdmmlaahjgijaadoor", sum := "4844f17810614f2d24a51a38cc6569989261e99ae8a1c30209fee273900fca12", checked := Tryd.checked }
namespace Rows
def none {H : Type} : Left H := { results := [], args := [] }

/- WHAT THE LISTED PACKAGE-LEVEL VARIABLES READ AS WHEN THE CALL BEGINS. Each datum BY PROGRAM (the guide's laid-datum.mjs) off the statement by which the dump's own 'gosem.cut.vars' lays the variable. In a bare row this is a premise. The card (YthdmmlaahjgijaaDoorCards.lean) ties it to the program's text. -/
def laid_bellman_utf_leads {H : Type} : DataW H := .agg [.agg [.lit (.int .i64 0), .lit (.int .i64 127), .lit (.int .u8 0), .lit (.int .i64 0)], .agg [.lit (.int .i64 128), .lit (.int .i64 2047), .lit (.int .u8 192), .lit (.int .i64 1)], .agg [.lit (.int .i64 2048), .lit (.int .i64 4095), .lit (.int .u8 224), .lit (.int .i64 2)], .agg [.lit (.int .i64 4096), .lit (.int .i64 53247), .lit (.int .u8 224), .lit (.int .i64 2)], .agg [.lit (.int .i64 53248), .lit (.int .i64 55295), .lit (.int .u8 224), .lit (.int .i64 2)], .agg [.lit (.int .i64 57344), .lit (.int .i64 65535), .lit (.int .u8 224), .lit (.int .i64 2)], .agg [.lit (.int .i64 65536), .lit (.int .i64 262143), .lit (.int .u8 240), .lit (.int .i64 3)], .agg [.lit (.int .i64 262144), .lit (.int .i64 1048575), .lit (.int .u8 240), .lit (.int .i64 3)], .agg [.lit (.int .i64 1048576), .lit (.int .i64 1114111), .lit (.int .u8 240), .lit (.int .i64 3)]]
def laid_bellman_lines_ends {H : Type} : DataW H := .agg [.lit (.int .u8 13), .lit (.int .u8 10)]

/-- 'bellmanlaw04.UtfOf': WHATEVER THE INPUT: true; the input reads as it did. -/
def utfOfSpec : ChangeSpec := { name := "utfOf", fn := fun _ => fun
  | [d] => { results := [.lit (.bool true)], args := [d] }
  | _ => none }
def utfOfRow : OpenClaim := { program := "ythdmmlaahjgijaadoor", sum := "4844f17810614f2d24a51a38cc6569989261e99ae8a1c30209fee273900fca12", func := "bellman/bellmanlaw04.UtfOf", spec := "utfOf", unfollowed := true, recurses := true, named := ["bellman/utf.leads"], apart := false, laid := [("bellman/utf.leads", laid_bellman_utf_leads)] }
def UtfOfSaid : Prop := utfOfRow.holds Tryd.pinned (OpenSpec.ofChange utfOfSpec)

/-- ITS FALSE NEIGHBOUR: 'it returns false'. Refute it at one input. -/
def utfOfWrong : ChangeSpec := { name := "utfOf", fn := fun _ => fun
  | [d] => { results := [.lit (.bool false)], args := [d] }
  | _ => none }
def UtfOfWrongFalsely : Prop := utfOfRow.holds Tryd.pinned (OpenSpec.ofChange utfOfWrong)

/-- 'bellmanlaw04.UtfPoints': WHATEVER THE INPUT: true; the input reads as it did. -/
def utfPointsSpec : ChangeSpec := { name := "utfPoints", fn := fun _ => fun
  | [d] => { results := [.lit (.bool true)], args := [d] }
  | _ => none }
def utfPointsRow : OpenClaim := { program := "ythdmmlaahjgijaadoor", sum := "4844f17810614f2d24a51a38cc6569989261e99ae8a1c30209fee273900fca12", func := "bellman/bellmanlaw04.UtfPoints", spec := "utfPoints", unfollowed := true, recurses := true, named := ["bellman/utf.leads"], apart := false, laid := [("bellman/utf.leads", laid_bellman_utf_leads)] }
def UtfPointsSaid : Prop := utfPointsRow.holds Tryd.pinned (OpenSpec.ofChange utfPointsSpec)

/-- ITS FALSE NEIGHBOUR: 'it returns false'. Refute it at one input. -/
def utfPointsWrong : ChangeSpec := { name := "utfPoints", fn := fun _ => fun
  | [d] => { results := [.lit (.bool false)], args := [d] }
  | _ => none }
def UtfPointsWrongFalsely : Prop := utfPointsRow.holds Tryd.pinned (OpenSpec.ofChange utfPointsWrong)

/-- 'bellmanlaw04.UtfEach': WHATEVER THE INPUT: true; the input reads as it did. -/
def utfEachSpec : ChangeSpec := { name := "utfEach", fn := fun _ => fun
  | [d1, d2] => { results := [.lit (.bool true)], args := [d1, d2] }
  | _ => none }
def utfEachRow : OpenClaim := { program := "ythdmmlaahjgijaadoor", sum := "4844f17810614f2d24a51a38cc6569989261e99ae8a1c30209fee273900fca12", func := "bellman/bellmanlaw04.UtfEach", spec := "utfEach", unfollowed := true, recurses := true, named := ["bellman/utf.leads"], apart := false, laid := [("bellman/utf.leads", laid_bellman_utf_leads)] }
def UtfEachSaid : Prop := utfEachRow.holds Tryd.pinned (OpenSpec.ofChange utfEachSpec)

/-- ITS FALSE NEIGHBOUR: 'it returns false'. Refute it at one input. -/
def utfEachWrong : ChangeSpec := { name := "utfEach", fn := fun _ => fun
  | [d1, d2] => { results := [.lit (.bool false)], args := [d1, d2] }
  | _ => none }
def UtfEachWrongFalsely : Prop := utfEachRow.holds Tryd.pinned (OpenSpec.ofChange utfEachWrong)

/-- 'bellmanlaw04.UtfWrites': WHATEVER THE INPUT: true; the input reads as it did. -/
def utfWritesSpec : ChangeSpec := { name := "utfWrites", fn := fun _ => fun
  | [d1, d2] => { results := [.lit (.bool true)], args := [d1, d2] }
  | _ => none }
def utfWritesRow : OpenClaim := { program := "ythdmmlaahjgijaadoor", sum := "4844f17810614f2d24a51a38cc6569989261e99ae8a1c30209fee273900fca12", func := "bellman/bellmanlaw04.UtfWrites", spec := "utfWrites", unfollowed := true, recurses := true, named := ["bellman/utf.leads"], apart := false, laid := [("bellman/utf.leads", laid_bellman_utf_leads)] }
def UtfWritesSaid : Prop := utfWritesRow.holds Tryd.pinned (OpenSpec.ofChange utfWritesSpec)

/-- ITS FALSE NEIGHBOUR: 'it returns false'. Refute it at one input. -/
def utfWritesWrong : ChangeSpec := { name := "utfWrites", fn := fun _ => fun
  | [d1, d2] => { results := [.lit (.bool false)], args := [d1, d2] }
  | _ => none }
def UtfWritesWrongFalsely : Prop := utfWritesRow.holds Tryd.pinned (OpenSpec.ofChange utfWritesWrong)

/-- 'bellmanlaw04.UtfHolds': WHATEVER THE INPUT: true; the input reads as it did. -/
def utfHoldsSpec : ChangeSpec := { name := "utfHolds", fn := fun _ => fun
  | [d1, d2] => { results := [.lit (.bool true)], args := [d1, d2] }
  | _ => none }
def utfHoldsRow : OpenClaim := { program := "ythdmmlaahjgijaadoor", sum := "4844f17810614f2d24a51a38cc6569989261e99ae8a1c30209fee273900fca12", func := "bellman/bellmanlaw04.UtfHolds", spec := "utfHolds", unfollowed := true, recurses := true, named := ["bellman/utf.leads"], apart := false, laid := [("bellman/utf.leads", laid_bellman_utf_leads)] }
def UtfHoldsSaid : Prop := utfHoldsRow.holds Tryd.pinned (OpenSpec.ofChange utfHoldsSpec)

/-- ITS FALSE NEIGHBOUR: 'it returns false'. Refute it at one input. -/
def utfHoldsWrong : ChangeSpec := { name := "utfHolds", fn := fun _ => fun
  | [d1, d2] => { results := [.lit (.bool false)], args := [d1, d2] }
  | _ => none }
def UtfHoldsWrongFalsely : Prop := utfHoldsRow.holds Tryd.pinned (OpenSpec.ofChange utfHoldsWrong)

/-- 'bellmanlaw05.LinesOf': WHATEVER THE INPUT: true; the input reads as it did. -/
def linesOfSpec : ChangeSpec := { name := "linesOf", fn := fun _ => fun
  | [d1, d2, d3] => { results := [.lit (.bool true)], args := [d1, d2, d3] }
  | _ => none }
def linesOfRow : OpenClaim := { program := "ythdmmlaahjgijaadoor", sum := "4844f17810614f2d24a51a38cc6569989261e99ae8a1c30209fee273900fca12", func := "bellman/bellmanlaw05.LinesOf", spec := "linesOf", unfollowed := true, recurses := true, named := ["bellman/utf.leads", "bellman/lines.ends"], apart := false, laid := [("bellman/utf.leads", laid_bellman_utf_leads), ("bellman/lines.ends", laid_bellman_lines_ends)] }
def LinesOfSaid : Prop := linesOfRow.holds Tryd.pinned (OpenSpec.ofChange linesOfSpec)

/-- ITS FALSE NEIGHBOUR: 'it returns false'. Refute it at one input. -/
def linesOfWrong : ChangeSpec := { name := "linesOf", fn := fun _ => fun
  | [d1, d2, d3] => { results := [.lit (.bool false)], args := [d1, d2, d3] }
  | _ => none }
def LinesOfWrongFalsely : Prop := linesOfRow.holds Tryd.pinned (OpenSpec.ofChange linesOfWrong)

/-- 'bellmanlaw05.LinesWrite': WHATEVER THE INPUT: true; the input reads as it did. -/
def linesWriteSpec : ChangeSpec := { name := "linesWrite", fn := fun _ => fun
  | [d1, d2, d3] => { results := [.lit (.bool true)], args := [d1, d2, d3] }
  | _ => none }
def linesWriteRow : OpenClaim := { program := "ythdmmlaahjgijaadoor", sum := "4844f17810614f2d24a51a38cc6569989261e99ae8a1c30209fee273900fca12", func := "bellman/bellmanlaw05.LinesWrite", spec := "linesWrite", unfollowed := true, recurses := true, named := ["bellman/utf.leads", "bellman/lines.ends"], apart := false, laid := [("bellman/utf.leads", laid_bellman_utf_leads), ("bellman/lines.ends", laid_bellman_lines_ends)] }
def LinesWriteSaid : Prop := linesWriteRow.holds Tryd.pinned (OpenSpec.ofChange linesWriteSpec)

/-- ITS FALSE NEIGHBOUR: 'it returns false'. Refute it at one input. -/
def linesWriteWrong : ChangeSpec := { name := "linesWrite", fn := fun _ => fun
  | [d1, d2, d3] => { results := [.lit (.bool false)], args := [d1, d2, d3] }
  | _ => none }
def LinesWriteWrongFalsely : Prop := linesWriteRow.holds Tryd.pinned (OpenSpec.ofChange linesWriteWrong)

/-- 'bellmanlaw05.LinesHold': WHATEVER THE INPUT: true; the input reads as it did. -/
def linesHoldSpec : ChangeSpec := { name := "linesHold", fn := fun _ => fun
  | [d1, d2, d3] => { results := [.lit (.bool true)], args := [d1, d2, d3] }
  | _ => none }
def linesHoldRow : OpenClaim := { program := "ythdmmlaahjgijaadoor", sum := "4844f17810614f2d24a51a38cc6569989261e99ae8a1c30209fee273900fca12", func := "bellman/bellmanlaw05.LinesHold", spec := "linesHold", unfollowed := true, recurses := true, named := ["bellman/utf.leads", "bellman/lines.ends"], apart := false, laid := [("bellman/utf.leads", laid_bellman_utf_leads), ("bellman/lines.ends", laid_bellman_lines_ends)] }
def LinesHoldSaid : Prop := linesHoldRow.holds Tryd.pinned (OpenSpec.ofChange linesHoldSpec)

/-- ITS FALSE NEIGHBOUR: 'it returns false'. Refute it at one input. -/
def linesHoldWrong : ChangeSpec := { name := "linesHold", fn := fun _ => fun
  | [d1, d2, d3] => { results := [.lit (.bool false)], args := [d1, d2, d3] }
  | _ => none }
def LinesHoldWrongFalsely : Prop := linesHoldRow.holds Tryd.pinned (OpenSpec.ofChange linesHoldWrong)

/- THE SECOND FORM. 'bulk': how many values and letters a reading holds, each counted each time it is reached (what is shared counts as often as it is met; a slice's spare places count too). A statement '..UptoSaid' is the law's where the arguments, and the package variables that the reading takes, are together of bulk at most 1048576: NARROWER than '..Said'. Prove '..Said' where nothing that the law and all that it calls make is longer than what came in: it says more and counts as full. Else prove '..UptoSaid'. A law counts once. -/
mutual
def uptoBulk {H : Type} : DataW H → Nat
  | .lit (.string bytes) => bytes.length + 1
  | .lit _ => 1
  | .nil => 1
  | .ptr d => uptoBulk d + 1
  | .slice elems spare => uptoBulkAll elems + uptoBulkAll spare + 1
  | .agg parts => uptoBulkAll parts + 1
  | .iface _ d => uptoBulk d + 1
  | .map entries => uptoBulkEntries entries + 1
  | .held _ => 1
def uptoBulkAll {H : Type} : List (DataW H) → Nat
  | [] => 0
  | d :: r => uptoBulk d + uptoBulkAll r
def uptoBulkEntries {H : Type} : List (Lit × DataW H) → Nat
  | [] => 0
  | x :: r => uptoBulkEntry x + uptoBulkEntries r
def uptoBulkEntry {H : Type} : Lit × DataW H → Nat
  | (.string bytes, d) => bytes.length + uptoBulk d + 1
  | (_, d) => uptoBulk d + 1
 end
def uptoSmall : (H : Type) → List (DataW H) → Bool := fun _ ds => decide (uptoBulkAll ds ≤ 1048576)
def OpenSpec.upto (s : _root_.Go.ChangeSpec) : _root_.Go.OpenSpec := { _root_.Go.OpenSpec.ofChange s with cond := some uptoSmall }

/-- 'bellmanlaw04.UtfOf', WHERE WHAT IT READS IS OF BULK AT MOST 1048576: true; the input reads as it did. -/
def utfOfUptoRow : OpenClaim := { program := "ythdmmlaahjgijaadoor", sum := "4844f17810614f2d24a51a38cc6569989261e99ae8a1c30209fee273900fca12", func := "bellman/bellmanlaw04.UtfOf", spec := "utfOf", unfollowed := true, recurses := true, named := ["bellman/utf.leads"], apart := false, laid := [("bellman/utf.leads", laid_bellman_utf_leads)], narrowed := true }
def UtfOfUptoSaid : Prop := utfOfUptoRow.holds Tryd.pinned (OpenSpec.upto utfOfSpec)

/-- 'bellmanlaw04.UtfPoints', WHERE WHAT IT READS IS OF BULK AT MOST 1048576: true; the input reads as it did. -/
def utfPointsUptoRow : OpenClaim := { program := "ythdmmlaahjgijaadoor", sum := "4844f17810614f2d24a51a38cc6569989261e99ae8a1c30209fee273900fca12", func := "bellman/bellmanlaw04.UtfPoints", spec := "utfPoints", unfollowed := true, recurses := true, named := ["bellman/utf.leads"], apart := false, laid := [("bellman/utf.leads", laid_bellman_utf_leads)], narrowed := true }
def UtfPointsUptoSaid : Prop := utfPointsUptoRow.holds Tryd.pinned (OpenSpec.upto utfPointsSpec)

/-- 'bellmanlaw04.UtfEach', WHERE WHAT IT READS IS OF BULK AT MOST 1048576: true; the input reads as it did. -/
def utfEachUptoRow : OpenClaim := { program := "ythdmmlaahjgijaadoor", sum := "4844f17810614f2d24a51a38cc6569989261e99ae8a1c30209fee273900fca12", func := "bellman/bellmanlaw04.UtfEach", spec := "utfEach", unfollowed := true, recurses := true, named := ["bellman/utf.leads"], apart := false, laid := [("bellman/utf.leads", laid_bellman_utf_leads)], narrowed := true }
def UtfEachUptoSaid : Prop := utfEachUptoRow.holds Tryd.pinned (OpenSpec.upto utfEachSpec)

/-- 'bellmanlaw04.UtfWrites', WHERE WHAT IT READS IS OF BULK AT MOST 1048576: true; the input reads as it did. -/
def utfWritesUptoRow : OpenClaim := { program := "ythdmmlaahjgijaadoor", sum := "4844f17810614f2d24a51a38cc6569989261e99ae8a1c30209fee273900fca12", func := "bellman/bellmanlaw04.UtfWrites", spec := "utfWrites", unfollowed := true, recurses := true, named := ["bellman/utf.leads"], apart := false, laid := [("bellman/utf.leads", laid_bellman_utf_leads)], narrowed := true }
def UtfWritesUptoSaid : Prop := utfWritesUptoRow.holds Tryd.pinned (OpenSpec.upto utfWritesSpec)

/-- 'bellmanlaw04.UtfHolds', WHERE WHAT IT READS IS OF BULK AT MOST 1048576: true; the input reads as it did. -/
def utfHoldsUptoRow : OpenClaim := { program := "ythdmmlaahjgijaadoor", sum := "4844f17810614f2d24a51a38cc6569989261e99ae8a1c30209fee273900fca12", func := "bellman/bellmanlaw04.UtfHolds", spec := "utfHolds", unfollowed := true, recurses := true, named := ["bellman/utf.leads"], apart := false, laid := [("bellman/utf.leads", laid_bellman_utf_leads)], narrowed := true }
def UtfHoldsUptoSaid : Prop := utfHoldsUptoRow.holds Tryd.pinned (OpenSpec.upto utfHoldsSpec)

/-- 'bellmanlaw05.LinesOf', WHERE WHAT IT READS IS OF BULK AT MOST 1048576: true; the input reads as it did. -/
def linesOfUptoRow : OpenClaim := { program := "ythdmmlaahjgijaadoor", sum := "4844f17810614f2d24a51a38cc6569989261e99ae8a1c30209fee273900fca12", func := "bellman/bellmanlaw05.LinesOf", spec := "linesOf", unfollowed := true, recurses := true, named := ["bellman/utf.leads", "bellman/lines.ends"], apart := false, laid := [("bellman/utf.leads", laid_bellman_utf_leads), ("bellman/lines.ends", laid_bellman_lines_ends)], narrowed := true }
def LinesOfUptoSaid : Prop := linesOfUptoRow.holds Tryd.pinned (OpenSpec.upto linesOfSpec)

/-- 'bellmanlaw05.LinesWrite', WHERE WHAT IT READS IS OF BULK AT MOST 1048576: true; the input reads as it did. -/
def linesWriteUptoRow : OpenClaim := { program := "ythdmmlaahjgijaadoor", sum := "4844f17810614f2d24a51a38cc6569989261e99ae8a1c30209fee273900fca12", func := "bellman/bellmanlaw05.LinesWrite", spec := "linesWrite", unfollowed := true, recurses := true, named := ["bellman/utf.leads", "bellman/lines.ends"], apart := false, laid := [("bellman/utf.leads", laid_bellman_utf_leads), ("bellman/lines.ends", laid_bellman_lines_ends)], narrowed := true }
def LinesWriteUptoSaid : Prop := linesWriteUptoRow.holds Tryd.pinned (OpenSpec.upto linesWriteSpec)

/-- 'bellmanlaw05.LinesHold', WHERE WHAT IT READS IS OF BULK AT MOST 1048576: true; the input reads as it did. -/
def linesHoldUptoRow : OpenClaim := { program := "ythdmmlaahjgijaadoor", sum := "4844f17810614f2d24a51a38cc6569989261e99ae8a1c30209fee273900fca12", func := "bellman/bellmanlaw05.LinesHold", spec := "linesHold", unfollowed := true, recurses := true, named := ["bellman/utf.leads", "bellman/lines.ends"], apart := false, laid := [("bellman/utf.leads", laid_bellman_utf_leads), ("bellman/lines.ends", laid_bellman_lines_ends)], narrowed := true }
def LinesHoldUptoSaid : Prop := linesHoldUptoRow.holds Tryd.pinned (OpenSpec.upto linesHoldSpec)

end Rows
end Go.Proofs.YthdmmlaahjgijaaDoor
