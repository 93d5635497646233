import Derived.RangeFuncNested
import Derived.RangeFuncBox
import Derived.RangeFuncBound
import Derived.RangeFuncCalls
import Derived.RangeFuncLeaves
import Derived.Shelf.Abstract
import Derived.Shelf.RegionOpen
import Derived.WalkKit
import Derived.OwnWalkIn
import Derived.TacticsInMore
import Derived.LoopNIn
import Derived.LoopIn
import Derived.Lib.Hide
import Derived.Test.YtabgpnieekcdhaaDoorC
import Derived.ScopeJumps
import Derived.WalkMore
import Derived.Laws.EntriesVeiled
import Derived.BigQuiet
import Derived.Deep.QuietTactic
namespace Go.Proofs.YtabgpnieekcdhaaDoor
open Go.RowKit Go.Shelf
attribute [local go_sem] Oper.semAt_some
attribute [local go_sem] wide_fn wide_depth wide_round

/-! ## The table of bases; a number's text (01's F, as far as answers go) -/
def Tab (W : World) : Prop := W.cell? ⟨1, 0, none⟩ = some (.int .u64 10) ∧ W.cell? ⟨1, 1, none⟩ = some (.int .u64 16)
theorem Tab.lt {W : World} (h : Tab W) : 1 < W.heap.size := by
  rcases Nat.lt_or_ge 1 W.heap.size with h' | h'
  · exact h'
  · have := h.1
    simp [World.cell?, Array.getElem?_eq_none h'] at this
theorem Tab.below {W W' : World} (h : Tab W) (hb : Below W.heap.size W W') : Tab W' :=
  ⟨(hb.cell (p := ⟨1, 0, none⟩) h.lt).trans h.1, (hb.cell (p := ⟨1, 1, none⟩) h.lt).trans h.2⟩

theorem textCall_any (x : Nat) (hx : x < 18446744073709551616) (w : World) (hT : Tab w) :
    Calls Tryd.prog 45 #[.int .u64 x] w fun e w' => (∃ K, IsLen 10 x K ∧ e = .returned (.string ⟨(txt 10 x K).toArray⟩)) ∧ Below w.heap.size w w' := by
  obtain ⟨t0, t1⟩ := hT
  have hc := fun w => callsIn_wide.1 (written_in 3 (by omega) 10 x (.inl rfl) hx w)
  go_enter Tryd.func45, Tryd.ntmps45
  go_wp2_with (go_at_call 51; refine (hc _).mono ?_; rintro e w' ⟨⟨K, hK, rfl⟩, hb⟩)
  go_ret
  exact ⟨⟨_, by assumption, rfl⟩, by assumption⟩
theorem refText_any (x : Nat) (hx : x < 18446744073709551616) (w : World) :
    Calls Tryd.prog 24 #[.int .u64 x] w fun e w' => (∃ K, IsLen 10 x K ∧ e = .returned (.string ⟨(txt 10 x K).toArray⟩)) ∧ w = w' := by
  have hc := fun w => told_any 10 x (.inl rfl) hx w
  go_enter Tryd.func24, Tryd.ntmps24
  go_wp2_with (go_at_call 38; refine (hc _).mono ?_; rintro e w' ⟨⟨K, hK, rfl⟩, rfl⟩)
  go_ret
  exact ⟨⟨_, by assumption, rfl⟩, rfl⟩
end Go.Proofs.YtabgpnieekcdhaaDoor
