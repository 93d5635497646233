import Derived.Test.YthnmphnolgmfhaaDoorCards
import Derived.Test.YthnmphnolgmfhaaDoorTie
import Derived.Test.YthnmphnolgmfhaaDoorY
import Derived.Test.YthnmphnolgmfhaaDoorTkP
import Derived.ProofKit
import Derived.OpenShut
import Derived.Deep.DeepHandedRow
import Derived.Lib.LaidTab
import Derived.Shelf.Vars
import Derived.LaidMore
import Derived.Lay
import Derived.Stop.Joined
namespace Go.Proofs.YthnmphnolgmfhaaDoor
open Go.ChangeShapes Go.WideShapes Go.ChangeAt Go.RowKit

/-! ## What the rows give -/
theorem maxT_of {W : World} (h : W.ShapedOpen Tryd.prog) : MaxT W := by
  have hg : 0 < Tryd.prog.globals.size := of_decide_eq_true (by kernel_rfl)
  have h0 : ((begin Tryd.prog (fun _ _ => 0) default).world.heap[0]?).bind Obj.row? = some (#[.int .i64 0], 3) := by kernel_rfl
  obtain ⟨m, hm⟩ := cell_of_shapedOpen_int (k := .i64) h hg h0 rfl (by kernel_rfl) (by kernel_rfl) Tryd.underlying3
  obtain ⟨cs, hh, hs, _⟩ := h.1 _ _ _ hg h0
  have h1 : cs.size = 1 := hs
  refine ⟨m, ?_⟩
  have hc : cs[0]? = some (.int .i64 m) := by simpa [World.cell?, hh] using hm
  have hcs : cs = #[.int .i64 m] := by
    apply Array.ext
    · simp [h1]
    · intro i h2 h3
      have : i = 0 := by omega
      subst this
      have := (Array.getElem?_eq_some_iff.1 hc).2
      simpa using this
  rw [hcs] at hh
  exact hh
/-- A world for the witness. -/
noncomputable def laidWorldK (os : Os) : World := World.laidAll Tryd.prog os Rows.tokenTellsRow.laid
end Go.Proofs.YthnmphnolgmfhaaDoor
