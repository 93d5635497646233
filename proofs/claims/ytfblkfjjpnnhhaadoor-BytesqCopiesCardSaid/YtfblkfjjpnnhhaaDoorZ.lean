import Derived.Test.YtfblkfjjpnnhhaaDoorCards
import Derived.Test.YtfblkfjjpnnhhaaDoorTie
import Derived.Test.YtfblkfjjpnnhhaaDoorE
import Derived.Test.YtfblkfjjpnnhhaaDoorY
import Derived.ProofKit
import Derived.OpenShut
import Derived.Deep.DeepHandedRow
import Derived.Lib.LaidTab
namespace Go.Proofs.YtfblkfjjpnnhhaaDoor
open Go.ChangeShapes Go.WideShapes Go.ChangeAt Go.RowKit

/-! ## The bounds of rooms, as the rows list them -/
theorem gTab : Tryd.prog.globalNamed "bellman/bytesq.rooms" = some 0 := by kernel_rfl
theorem gTabType : (Tryd.prog.globals[0]?).map (·.type) = some 57 := by kernel_rfl
theorem cellsTab : Tryd.prog.cellsOf 57 = 2 := by kernel_rfl
theorem cells64 : Tryd.prog.cellsOf 3 = 1 := by kernel_rfl
/-- What the row's list gives. -/
theorem table {W : World} (h : laidMetH Tryd.prog [("bellman/bytesq.rooms", Rows.laid_bellman_bytesq_rooms)] W) : Tab W := by
  have t : Lib.TabIs Tryd.prog W "bellman/bytesq.rooms" .i64 [0, 1048576] :=
    Lib.tabIs_of_head (rest := []) gTab gTabType Tryd.underlying57 Tryd.underlying3 cells64 cellsTab h
  exact ⟨t.cell gTab 0 (by decide), t.cell gTab 1 (by decide)⟩

/-- A world for the witness: the settled one, the table as its initialiser lays it. -/
noncomputable def laidWorld (os : Os) : World :=
  { World.holding Tryd.prog os ⟨#[], #[], []⟩ with heap := (World.holding Tryd.prog os ⟨#[], #[], []⟩).heap.modify 0 fun
      | .cells _ t frozen => .cells #[.int .i64 0, .int .i64 1048576] t frozen
      | o => o }
end Go.Proofs.YtfblkfjjpnnhhaaDoor
