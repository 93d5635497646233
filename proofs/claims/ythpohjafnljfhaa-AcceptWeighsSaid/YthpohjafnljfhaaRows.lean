/-
  No cell of these rows narrows 'for every input' (looked for: loops, veiled, ifaces, maps, wideKeys, modest, calm, conditions, laid).
  DERIVED. THE GIVEN ROWS OF THIS SEAT. 2 by the template 'for every input the law returns true; each argument reads behind the call as it read before'; 0 by the template 'total and deterministic' (their statements: YthpohjafnljfhaaTotals.lean).
  GIVEN WITH THE SEED: the statements are not yours to turn. If you find one false, say at which input.
  Laid BY PROGRAM, IN A SANDBOX (cutbox-rows.mjs): the forced cells as the released guide's own fill.sh prints them over the translation 2a67059c9d0ae264… (all of the seat's roots in one cut). By AI agents, Wed Nov 11 2026. No macro, syntax, notation, axiom, sorry.
-/
import Derived.Test.YthpohjafnljfhaaChecked
import GoSem.Claim
import GoSem.ClaimJoined
import GoSem.ClaimMapViews
import Derived.JoinedTies
import Derived.KernelRfl
namespace Go.Proofs.Ythpohjafnljfhaa
/- THE CELL 'sum', in the pinned program and in every row, IS THE sha256 OF THE DUMP (.gsa) THAT YthpohjafnljfhaaProg.lean LOADS. Nothing in Lean hashes anything: it is a label: what it is worth is what the hold of that sum in a sandbox is worth. -/
noncomputable def Try.pinned : Pinned := { name := "ythpohjafnljfhaa", sum := "2a67059c9d0ae2643f069127f8a8dbd44b86f8b9efb3d6f22bbc4c6f5b451cba", checked := Try.checked }
namespace Rows
def none {H : Type} : Left H := { results := [], args := [] }

/-- 'bellmanlaw12.AcceptWeighs': WHATEVER THE INPUT: true; the input reads as it did. -/
def acceptWeighsSpec : ChangeSpec := { name := "acceptWeighs", fn := fun _ => fun
  | [d] => { results := [.lit (.bool true)], args := [d] }
  | _ => none }
def acceptWeighsRow : OpenClaim := { program := "ythpohjafnljfhaa", sum := "2a67059c9d0ae2643f069127f8a8dbd44b86f8b9efb3d6f22bbc4c6f5b451cba", func := "bellman/bellmanlaw12.AcceptWeighs", spec := "acceptWeighs", inPlace := ["math.Float64frombits", "internal/bytealg.IndexByteString", "internal/bytealg.IndexString", "math.Float64bits"], unfollowed := true, recurses := true, named := ["internal/bytealg.MaxLen"], apart := false }
def AcceptWeighsSaid : Prop := acceptWeighsRow.holds Try.pinned (OpenSpec.ofChange acceptWeighsSpec)

/-- ITS FALSE NEIGHBOUR: 'it returns false'. Refute it at one input. -/
def acceptWeighsWrong : ChangeSpec := { name := "acceptWeighs", fn := fun _ => fun
  | [d] => { results := [.lit (.bool false)], args := [d] }
  | _ => none }
def AcceptWeighsWrongFalsely : Prop := acceptWeighsRow.holds Try.pinned (OpenSpec.ofChange acceptWeighsWrong)

/-- 'bellmanlaw12.AcceptHolds': WHATEVER THE INPUT: true; the input reads as it did. -/
def acceptHoldsSpec : ChangeSpec := { name := "acceptHolds", fn := fun _ => fun
  | [d1, d2, d3, d4] => { results := [.lit (.bool true)], args := [d1, d2, d3, d4] }
  | _ => none }
def acceptHoldsRow : OpenClaim := { program := "ythpohjafnljfhaa", sum := "2a67059c9d0ae2643f069127f8a8dbd44b86f8b9efb3d6f22bbc4c6f5b451cba", func := "bellman/bellmanlaw12.AcceptHolds", spec := "acceptHolds", inPlace := ["internal/bytealg.IndexByteString", "internal/bytealg.IndexString", "math.Float64frombits", "math.Float64bits"], unfollowed := true, recurses := true, named := ["internal/bytealg.MaxLen"], apart := false }
def AcceptHoldsSaid : Prop := acceptHoldsRow.holds Try.pinned (OpenSpec.ofChange acceptHoldsSpec)

/-- ITS FALSE NEIGHBOUR: 'it returns false'. Refute it at one input. -/
def acceptHoldsWrong : ChangeSpec := { name := "acceptHolds", fn := fun _ => fun
  | [d1, d2, d3, d4] => { results := [.lit (.bool false)], args := [d1, d2, d3, d4] }
  | _ => none }
def AcceptHoldsWrongFalsely : Prop := acceptHoldsRow.holds Try.pinned (OpenSpec.ofChange acceptHoldsWrong)

/- THE SECOND FORM. 'bulk': how many values and letters a reading holds, each counted each time it is reached (what is shared counts as often as it is met; a slice's spare places count too). A statement '..UptoSaid' is the law's where the arguments, and the package variables that the reading takes, are together of bulk at most 1048576: NARROWER than '..Said'. Prove '..Said' where nothing that the law and all that it calls make is longer than what came in: it says more and counts as full. Else prove '..UptoSaid'. A law counts once. -/
mutual
def uptoBulk {H : Type} : DataW H → Nat
  | .lit (.string bytes) => bytes.length + 1
  | .lit _ => 1
  | .nil => 1
  | .ptr d => uptoBulk d + 1
  | .slice elems spare => uptoBulkAll elems + uptoBulkAll spare + 1
  | .agg parts => uptoBulkAll parts + 1
  | .iface _ d => uptoBulk d + 1
  | .map entries => uptoBulkEntries entries + 1
  | .held _ => 1
def uptoBulkAll {H : Type} : List (DataW H) → Nat
  | [] => 0
  | d :: r => uptoBulk d + uptoBulkAll r
def uptoBulkEntries {H : Type} : List (Lit × DataW H) → Nat
  | [] => 0
  | x :: r => uptoBulkEntry x + uptoBulkEntries r
def uptoBulkEntry {H : Type} : Lit × DataW H → Nat
  | (.string bytes, d) => bytes.length + uptoBulk d + 1
  | (_, d) => uptoBulk d + 1
 end
def uptoSmall : (H : Type) → List (DataW H) → Bool := fun _ ds => decide (uptoBulkAll ds ≤ 1048576)
def OpenSpec.upto (s : _root_.Go.ChangeSpec) : _root_.Go.OpenSpec := { _root_.Go.OpenSpec.ofChange s with cond := some uptoSmall }

/-- 'bellmanlaw12.AcceptWeighs', WHERE WHAT IT READS IS OF BULK AT MOST 1048576: true; the input reads as it did. -/
def acceptWeighsUptoRow : OpenClaim := { program := "ythpohjafnljfhaa", sum := "2a67059c9d0ae2643f069127f8a8dbd44b86f8b9efb3d6f22bbc4c6f5b451cba", func := "bellman/bellmanlaw12.AcceptWeighs", spec := "acceptWeighs", inPlace := ["math.Float64frombits", "internal/bytealg.IndexByteString", "internal/bytealg.IndexString", "math.Float64bits"], unfollowed := true, recurses := true, named := ["internal/bytealg.MaxLen"], apart := false, narrowed := true }
def AcceptWeighsUptoSaid : Prop := acceptWeighsUptoRow.holds Try.pinned (OpenSpec.upto acceptWeighsSpec)

/-- 'bellmanlaw12.AcceptHolds', WHERE WHAT IT READS IS OF BULK AT MOST 1048576: true; the input reads as it did. -/
def acceptHoldsUptoRow : OpenClaim := { program := "ythpohjafnljfhaa", sum := "2a67059c9d0ae2643f069127f8a8dbd44b86f8b9efb3d6f22bbc4c6f5b451cba", func := "bellman/bellmanlaw12.AcceptHolds", spec := "acceptHolds", inPlace := ["internal/bytealg.IndexByteString", "internal/bytealg.IndexString", "math.Float64frombits", "math.Float64bits"], unfollowed := true, recurses := true, named := ["internal/bytealg.MaxLen"], apart := false, narrowed := true }
def AcceptHoldsUptoSaid : Prop := acceptHoldsUptoRow.holds Try.pinned (OpenSpec.upto acceptHoldsSpec)

end Rows
end Go.Proofs.Ythpohjafnljfhaa
