/-
  NARROWER THAN 'FOR EVERY INPUT', by the rows' own cells (each row's printed sentence says how): BytesqPlays: laid · BytesqCopies: laid · BytesqNone: laid · BytesqHolds: laid.
  DERIVED. THE GIVEN ROWS OF THIS SEAT. 4 by the template 'for every input the law returns true; each argument reads behind the call as it read before'; 0 by the template 'total and deterministic' (their statements: YtfblkfjjpnnhhaaDoorTotals.lean).
  GIVEN WITH THE SEED: the statements are not yours to turn. If you find one false, say at which input.
  Laid BY PROGRAM, IN A SANDBOX (cutbox-rows.mjs): the forced cells as the released guide's own fill.sh prints them over the translation 6c589b6a0cab9c8a… (all of the seat's roots in one cut). By AI agents, Wed Nov 11 2026. No macro, syntax, notation, axiom, sorry.
-/
import Derived.Test.YtfblkfjjpnnhhaaDoorChecked
import GoSem.Claim
import GoSem.ClaimJoined
import GoSem.ClaimMapViews
import Derived.JoinedTies
import Derived.KernelRfl
namespace Go.Proofs.YtfblkfjjpnnhhaaDoor
/- THE CELL 'sum', in the pinned program and in every row, IS THE sha256 OF THE DUMP (.gsa) THAT YtfblkfjjpnnhhaaDoorProg.lean LOADS. Nothing in Lean hashes anything: it is a label: what it is worth is what the hold of that sum in a sandbox is worth. -/
noncomputable def Tryd.pinned : Pinned := { name := "ytfblkfjjpnnhhaadoor", sum := "6c589b6a0cab9c8a81bf4df40e4de36990537977122d298bbf4c299abff90902", checked := Tryd.checked }
namespace Rows
def none {H : Type} : Left H := { results := [], args := [] }

/- WHAT THE LISTED PACKAGE-LEVEL VARIABLES READ AS WHEN THE CALL BEGINS. Each datum BY PROGRAM (the guide's laid-datum.mjs) off the statement by which the dump's own 'gosem.cut.vars' lays the variable. In a bare row this is a premise. The card (YtfblkfjjpnnhhaaDoorCards.lean) ties it to the program's text. -/
def laid_bellman_bytesq_rooms {H : Type} : DataW H := .agg [.lit (.int .i64 0), .lit (.int .i64 1048576)]

/-- 'bellmanlaw02.BytesqPlays': WHATEVER THE INPUT: true; the input reads as it did. -/
def bytesqPlaysSpec : ChangeSpec := { name := "bytesqPlays", fn := fun _ => fun
  | [d1, d2] => { results := [.lit (.bool true)], args := [d1, d2] }
  | _ => none }
def bytesqPlaysRow : OpenClaim := { program := "ytfblkfjjpnnhhaadoor", sum := "6c589b6a0cab9c8a81bf4df40e4de36990537977122d298bbf4c299abff90902", func := "bellman/bellmanlaw02.BytesqPlays", spec := "bytesqPlays", unfollowed := true, recurses := true, named := ["bellman/bytesq.rooms"], apart := false, laid := [("bellman/bytesq.rooms", laid_bellman_bytesq_rooms)] }
def BytesqPlaysSaid : Prop := bytesqPlaysRow.holds Tryd.pinned (OpenSpec.ofChange bytesqPlaysSpec)

/-- ITS FALSE NEIGHBOUR: 'it returns false'. Refute it at one input. -/
def bytesqPlaysWrong : ChangeSpec := { name := "bytesqPlays", fn := fun _ => fun
  | [d1, d2] => { results := [.lit (.bool false)], args := [d1, d2] }
  | _ => none }
def BytesqPlaysWrongFalsely : Prop := bytesqPlaysRow.holds Tryd.pinned (OpenSpec.ofChange bytesqPlaysWrong)

/-- 'bellmanlaw02.BytesqCopies': WHATEVER THE INPUT: true; the input reads as it did. -/
def bytesqCopiesSpec : ChangeSpec := { name := "bytesqCopies", fn := fun _ => fun
  | [d1, d2, d3] => { results := [.lit (.bool true)], args := [d1, d2, d3] }
  | _ => none }
def bytesqCopiesRow : OpenClaim := { program := "ytfblkfjjpnnhhaadoor", sum := "6c589b6a0cab9c8a81bf4df40e4de36990537977122d298bbf4c299abff90902", func := "bellman/bellmanlaw02.BytesqCopies", spec := "bytesqCopies", unfollowed := true, recurses := true, named := ["bellman/bytesq.rooms"], apart := false, laid := [("bellman/bytesq.rooms", laid_bellman_bytesq_rooms)] }
def BytesqCopiesSaid : Prop := bytesqCopiesRow.holds Tryd.pinned (OpenSpec.ofChange bytesqCopiesSpec)

/-- ITS FALSE NEIGHBOUR: 'it returns false'. Refute it at one input. -/
def bytesqCopiesWrong : ChangeSpec := { name := "bytesqCopies", fn := fun _ => fun
  | [d1, d2, d3] => { results := [.lit (.bool false)], args := [d1, d2, d3] }
  | _ => none }
def BytesqCopiesWrongFalsely : Prop := bytesqCopiesRow.holds Tryd.pinned (OpenSpec.ofChange bytesqCopiesWrong)

/-- 'bellmanlaw02.BytesqNone': WHATEVER THE INPUT: true; the input reads as it did. -/
def bytesqNoneSpec : ChangeSpec := { name := "bytesqNone", fn := fun _ => fun
  | [d1, d2] => { results := [.lit (.bool true)], args := [d1, d2] }
  | _ => none }
def bytesqNoneRow : OpenClaim := { program := "ytfblkfjjpnnhhaadoor", sum := "6c589b6a0cab9c8a81bf4df40e4de36990537977122d298bbf4c299abff90902", func := "bellman/bellmanlaw02.BytesqNone", spec := "bytesqNone", unfollowed := true, recurses := true, named := ["bellman/bytesq.rooms"], apart := false, laid := [("bellman/bytesq.rooms", laid_bellman_bytesq_rooms)] }
def BytesqNoneSaid : Prop := bytesqNoneRow.holds Tryd.pinned (OpenSpec.ofChange bytesqNoneSpec)

/-- ITS FALSE NEIGHBOUR: 'it returns false'. Refute it at one input. -/
def bytesqNoneWrong : ChangeSpec := { name := "bytesqNone", fn := fun _ => fun
  | [d1, d2] => { results := [.lit (.bool false)], args := [d1, d2] }
  | _ => none }
def BytesqNoneWrongFalsely : Prop := bytesqNoneRow.holds Tryd.pinned (OpenSpec.ofChange bytesqNoneWrong)

/-- 'bellmanlaw02.BytesqHolds': WHATEVER THE INPUT: true; the input reads as it did. -/
def bytesqHoldsSpec : ChangeSpec := { name := "bytesqHolds", fn := fun _ => fun
  | [d1, d2] => { results := [.lit (.bool true)], args := [d1, d2] }
  | _ => none }
def bytesqHoldsRow : OpenClaim := { program := "ytfblkfjjpnnhhaadoor", sum := "6c589b6a0cab9c8a81bf4df40e4de36990537977122d298bbf4c299abff90902", func := "bellman/bellmanlaw02.BytesqHolds", spec := "bytesqHolds", unfollowed := true, recurses := true, named := ["bellman/bytesq.rooms"], apart := false, laid := [("bellman/bytesq.rooms", laid_bellman_bytesq_rooms)] }
def BytesqHoldsSaid : Prop := bytesqHoldsRow.holds Tryd.pinned (OpenSpec.ofChange bytesqHoldsSpec)

/-- ITS FALSE NEIGHBOUR: 'it returns false'. Refute it at one input. -/
def bytesqHoldsWrong : ChangeSpec := { name := "bytesqHolds", fn := fun _ => fun
  | [d1, d2] => { results := [.lit (.bool false)], args := [d1, d2] }
  | _ => none }
def BytesqHoldsWrongFalsely : Prop := bytesqHoldsRow.holds Tryd.pinned (OpenSpec.ofChange bytesqHoldsWrong)

/- THE SECOND FORM. 'bulk': how many values and letters a reading holds, each counted each time it is reached (what is shared counts as often as it is met; a slice's spare places count too). A statement '..UptoSaid' is the law's where the arguments, and the package variables that the reading takes, are together of bulk at most 1048576: NARROWER than '..Said'. Prove '..Said' where nothing that the law and all that it calls make is longer than what came in: it says more and counts as full. Else prove '..UptoSaid'. A law counts once. -/
mutual
def uptoBulk {H : Type} : DataW H → Nat
  | .lit (.string bytes) => bytes.length + 1
  | .lit _ => 1
  | .nil => 1
  | .ptr d => uptoBulk d + 1
  | .slice elems spare => uptoBulkAll elems + uptoBulkAll spare + 1
  | .agg parts => uptoBulkAll parts + 1
  | .iface _ d => uptoBulk d + 1
  | .map entries => uptoBulkEntries entries + 1
  | .held _ => 1
def uptoBulkAll {H : Type} : List (DataW H) → Nat
  | [] => 0
  | d :: r => uptoBulk d + uptoBulkAll r
def uptoBulkEntries {H : Type} : List (Lit × DataW H) → Nat
  | [] => 0
  | x :: r => uptoBulkEntry x + uptoBulkEntries r
def uptoBulkEntry {H : Type} : Lit × DataW H → Nat
  | (.string bytes, d) => bytes.length + uptoBulk d + 1
  | (_, d) => uptoBulk d + 1
 end
def uptoSmall : (H : Type) → List (DataW H) → Bool := fun _ ds => decide (uptoBulkAll ds ≤ 1048576)
def OpenSpec.upto (s : _root_.Go.ChangeSpec) : _root_.Go.OpenSpec := { _root_.Go.OpenSpec.ofChange s with cond := some uptoSmall }

/-- 'bellmanlaw02.BytesqPlays', WHERE WHAT IT READS IS OF BULK AT MOST 1048576: true; the input reads as it did. -/
def bytesqPlaysUptoRow : OpenClaim := { program := "ytfblkfjjpnnhhaadoor", sum := "6c589b6a0cab9c8a81bf4df40e4de36990537977122d298bbf4c299abff90902", func := "bellman/bellmanlaw02.BytesqPlays", spec := "bytesqPlays", unfollowed := true, recurses := true, named := ["bellman/bytesq.rooms"], apart := false, laid := [("bellman/bytesq.rooms", laid_bellman_bytesq_rooms)], narrowed := true }
def BytesqPlaysUptoSaid : Prop := bytesqPlaysUptoRow.holds Tryd.pinned (OpenSpec.upto bytesqPlaysSpec)

/-- 'bellmanlaw02.BytesqCopies', WHERE WHAT IT READS IS OF BULK AT MOST 1048576: true; the input reads as it did. -/
def bytesqCopiesUptoRow : OpenClaim := { program := "ytfblkfjjpnnhhaadoor", sum := "6c589b6a0cab9c8a81bf4df40e4de36990537977122d298bbf4c299abff90902", func := "bellman/bellmanlaw02.BytesqCopies", spec := "bytesqCopies", unfollowed := true, recurses := true, named := ["bellman/bytesq.rooms"], apart := false, laid := [("bellman/bytesq.rooms", laid_bellman_bytesq_rooms)], narrowed := true }
def BytesqCopiesUptoSaid : Prop := bytesqCopiesUptoRow.holds Tryd.pinned (OpenSpec.upto bytesqCopiesSpec)

/-- 'bellmanlaw02.BytesqNone', WHERE WHAT IT READS IS OF BULK AT MOST 1048576: true; the input reads as it did. -/
def bytesqNoneUptoRow : OpenClaim := { program := "ytfblkfjjpnnhhaadoor", sum := "6c589b6a0cab9c8a81bf4df40e4de36990537977122d298bbf4c299abff90902", func := "bellman/bellmanlaw02.BytesqNone", spec := "bytesqNone", unfollowed := true, recurses := true, named := ["bellman/bytesq.rooms"], apart := false, laid := [("bellman/bytesq.rooms", laid_bellman_bytesq_rooms)], narrowed := true }
def BytesqNoneUptoSaid : Prop := bytesqNoneUptoRow.holds Tryd.pinned (OpenSpec.upto bytesqNoneSpec)

/-- 'bellmanlaw02.BytesqHolds', WHERE WHAT IT READS IS OF BULK AT MOST 1048576: true; the input reads as it did. -/
def bytesqHoldsUptoRow : OpenClaim := { program := "ytfblkfjjpnnhhaadoor", sum := "6c589b6a0cab9c8a81bf4df40e4de36990537977122d298bbf4c299abff90902", func := "bellman/bellmanlaw02.BytesqHolds", spec := "bytesqHolds", unfollowed := true, recurses := true, named := ["bellman/bytesq.rooms"], apart := false, laid := [("bellman/bytesq.rooms", laid_bellman_bytesq_rooms)], narrowed := true }
def BytesqHoldsUptoSaid : Prop := bytesqHoldsUptoRow.holds Tryd.pinned (OpenSpec.upto bytesqHoldsSpec)

end Rows
end Go.Proofs.YtfblkfjjpnnhhaaDoor
