import Derived.Test.YtjbcckmbpdahaaaDoorCards
import Derived.Test.YtjbcckmbpdahaaaDoorTie
import Derived.Test.YtjbcckmbpdahaaaDoorI
import Derived.Test.YtjbcckmbpdahaaaDoorY
import Derived.ProofKit
import Derived.OpenShut
import Derived.Deep.DeepHandedRow
import Derived.Lib.LaidTab
namespace Go.Proofs.YtjbcckmbpdahaaaDoor
open Go.ChangeShapes Go.WideShapes Go.ChangeAt Go.RowKit

/-! ## The table of bases, as the rows list it -/
theorem gTab : Tryd.prog.globalNamed "bellman/decimal.bases" = some 0 := by kernel_rfl
theorem gTabType : (Tryd.prog.globals[0]?).map (·.type) = some 52 := by kernel_rfl
theorem cellsTab : Tryd.prog.cellsOf 52 = 2 := by kernel_rfl
theorem cells64 : Tryd.prog.cellsOf 22 = 1 := by kernel_rfl
/-- What the row's list gives. -/
theorem table {W : World} (h : laidMetH Tryd.prog [("bellman/decimal.bases", Rows.laid_bellman_decimal_bases)] W) : Tab W := by
  have t : Lib.TabIs Tryd.prog W "bellman/decimal.bases" .u64 [10, 16] :=
    Lib.tabIs_of_head (rest := []) gTab gTabType Tryd.underlying52 Tryd.underlying22 cells64 cellsTab h
  exact ⟨t.cell gTab 0 (by decide), t.cell gTab 1 (by decide)⟩

/-- A world for the witness: the settled one, the table as its initialiser lays it. -/
noncomputable def laidWorld (os : Os) : World :=
  { World.holding Tryd.prog os ⟨#[], #[], []⟩ with heap := (World.holding Tryd.prog os ⟨#[], #[], []⟩).heap.modify 0 fun
      | .cells _ t frozen => .cells #[.int .u64 10, .int .u64 16] t frozen
      | o => o }
end Go.Proofs.YtjbcckmbpdahaaaDoor
