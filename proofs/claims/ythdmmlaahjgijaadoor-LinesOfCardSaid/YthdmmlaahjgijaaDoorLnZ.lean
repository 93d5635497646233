import Derived.Test.YthdmmlaahjgijaaDoorZ
import Derived.Test.YthdmmlaahjgijaaDoorLnB
import Derived.Lib.LaidTab
namespace Go.Proofs.YthdmmlaahjgijaaDoor
open Go.ChangeShapes Go.WideShapes Go.ChangeAt Go.RowKit Go.Deep

/-! ## The rows' two tables -/
theorem laid_head {P : Program} {n : String} {d : DataW Unit} {rest : List (String × DataW Unit)} {W : World} (h : laidMet P ((n, d) :: rest) W) : laidMet P [(n, d)] W := by
  obtain ⟨ps, ⟨g, t, cs, fuel, p, q, h1, h2, h3, h4, h5, rfl⟩, hn, hc⟩ := h
  exact ⟨_, ⟨g, t, cs, fuel, p, [], h1, h2, h3, h4, rfl, rfl⟩, by simpa using (List.nodup_append.1 hn).1, fun b off hm => hc b off (List.mem_append_left _ (by simpa using hm))⟩
theorem laid_tail {P : Program} {n : String} {d : DataW Unit} {rest : List (String × DataW Unit)} {W : World} (h : laidMet P ((n, d) :: rest) W) : laidMet P rest W := by
  obtain ⟨ps, ⟨g, t, cs, fuel, p, q, h1, h2, h3, h4, h5, rfl⟩, hn, hc⟩ := h
  exact ⟨q, h5, (List.nodup_append.1 hn).2.1, fun b off hm => hc b off (List.mem_append_right _ hm)⟩
theorem gEnds : Tryd.prog.globalNamed "bellman/lines.ends" = some 1 := by kernel_rfl
theorem gEndsType : (Tryd.prog.globals[1]?).map (·.type) = some 138 := by kernel_rfl
theorem cellsEnds : Tryd.prog.cellsOf 138 = 2 := by kernel_rfl
theorem ends_of {W : World} (h : laidMet Tryd.prog [("bellman/lines.ends", Rows.laid_bellman_lines_ends)] W) : Ends W := by
  obtain ⟨ps, ⟨g', t', cs, fuel, p, q, hg', ht', hvar, hd, _, hps⟩, _, hcells⟩ := h
  obtain rfl := Option.some.inj (gEnds.symm.trans hg')
  obtain rfl := Option.some.inj (gEndsType.symm.trans ht')
  have hl : cs.toList = [13, 10].map fun z => Value.int .u8 z := Lib.cells_of_tab Tryd.underlying138 Tryd.underlying5 cells8 cellsEnds hd
  have hlen : cs.size = 2 := by have := congrArg List.length hl; simpa using this
  have hrow : MemPlace.cell 1 0 ∈ ps := by
    rw [hps, hlen]
    refine List.mem_append_left _ (List.mem_append_left _ ?_)
    decide
  obtain ⟨⟨c, t, hc⟩, _⟩ := hcells _ _ hrow
  have hcs : c = cs := by
    simp only [World.var?, gEnds, Option.bind_some] at hvar
    rw [hc] at hvar
    simpa using hvar
  subst hcs
  refine ⟨t, c, hc, ?_, ?_⟩
  · rw [← Array.getElem?_toList, hl]; rfl
  · rw [← Array.getElem?_toList, hl]; rfl
/-- What the rows' list gives. -/
theorem tables {W : World} (h : laidMetH Tryd.prog [("bellman/utf.leads", Rows.laid_bellman_utf_leads), ("bellman/lines.ends", Rows.laid_bellman_lines_ends)] W) : Tab W ∧ Ends W := by
  have h' : laidMet Tryd.prog [("bellman/utf.leads", Rows.laid_bellman_utf_leads), ("bellman/lines.ends", Rows.laid_bellman_lines_ends)] W := h
  exact ⟨table (laid_head h'), ends_of (laid_tail h')⟩
/-- A world for the witness. -/
noncomputable def laidWorldL (os : Os) : World :=
  { laidWorld os with heap := (laidWorld os).heap.modify 1 fun
      | .cells _ t frozen => .cells #[.int .u8 13, .int .u8 10] t frozen
      | o => o }
end Go.Proofs.YthdmmlaahjgijaaDoor
