import Derived.Test.YtdkmajmmhngdpaaDoorCards
import Derived.Test.YtdkmajmmhngdpaaDoorTie
import Derived.Test.YtdkmajmmhngdpaaDoorY
import Derived.Test.YtdkmajmmhngdpaaDoorFdA
import Derived.Test.YtdkmajmmhngdpaaDoorFdC
import Derived.Test.YtdkmajmmhngdpaaDoorF
import Derived.ProofKit
import Derived.OpenShut
import Derived.Deep.DeepHandedRow
import Derived.Lib.LaidTab
import Derived.Shelf.Vars
namespace Go.Proofs.YtdkmajmmhngdpaaDoor
open Go.ChangeShapes Go.WideShapes Go.ChangeAt Go.RowKit

/-! ## The rows' tables -/
theorem gBases : Tryd.prog.globalNamed "bellman/decimal.bases" = some 0 := by kernel_rfl
theorem gBasesType : (Tryd.prog.globals[0]?).map (·.type) = some 57 := by kernel_rfl
theorem cellsBases : Tryd.prog.cellsOf 57 = 2 := by kernel_rfl
theorem cellsU64 : Tryd.prog.cellsOf 22 = 1 := by kernel_rfl
theorem gNames : Tryd.prog.globalNamed "bellman/field.names" = some 1 := by kernel_rfl
theorem gNamesType : (Tryd.prog.globals[1]?).map (·.type) = some 86 := by kernel_rfl
theorem cellsNames : Tryd.prog.cellsOf 86 = 8 := by kernel_rfl
theorem cellsStr : Tryd.prog.cellsOf 9 = 1 := by kernel_rfl
theorem cells_of_strs {H : Type} {enc : TypeId × Value → H} {P : Program} {w : World} {base : Nat} {sp : Nat → Bool} {held : Bool} {fuel : Nat} {t e : TypeId} {n : Nat} {cs : List Value} {ss : List (List UInt8)} {p : List MemPlace}
    (ht : P.underlying t = some (.array n e)) (he : P.underlying e = some .string) (hce : P.cellsOf e = 1) (hct : P.cellsOf t = n)
    (h : DataW.trod enc P w base sp held fuel t cs = some (.agg (ss.map fun s => .lit (.string s)), p)) : cs = ss.map fun s => Value.string ⟨s.toArray⟩ := by
  cases fuel with
  | zero => simp [DataW.trod] at h
  | succ fuel =>
    simp only [DataW.trod, ht, hce, hct, Nat.mul_one] at h
    split at h
    · rename_i hl
      obtain ⟨xs, hm, hx⟩ := Option.map_eq_some_iff.1 h
      have hxs : xs.map (·.1) = ss.map fun s => (DataW.lit (.string s) : DataW H) := by
        have := congrArg Prod.fst hx
        simpa using this
      have hxl : xs.length = n := by simpa using Lib.mapM_length hm
      have hzl : ss.length = n := by
        have := congrArg List.length hxs
        simp at this
        omega
      apply List.ext_getElem?
      intro i
      by_cases hi : i < n
      · obtain ⟨b, hb, hf⟩ := Lib.mapM_at hm i i (by simp [hi])
        obtain ⟨s, hc, rfl, _⟩ := DataW.trod_string he hf
        have h1 : cs[i]? = some (.string s) := by
          have := congrArg (·[0]?) hc
          simpa [List.getElem?_take, List.getElem?_drop] using this
        have h2 : (xs.map (·.1))[i]? = some (DataW.lit (.string s.data.toList) : DataW H) := by simp [hb]
        rw [hxs] at h2
        simp only [List.getElem?_map, Option.map_eq_some_iff, DataW.lit.injEq, Lit.string.injEq] at h2
        obtain ⟨s', hs', e'⟩ := h2
        rw [h1, List.getElem?_map, hs', e']
        simp
      · rw [List.getElem?_eq_none (by omega), List.getElem?_eq_none (by simp; omega)]
    · cases h
theorem names_of {W : World} {rest : List (String × DataW Unit)} (h : laidMet Tryd.prog (("bellman/field.names", Rows.laid_bellman_field_names) :: rest) W) : NamesT W := by
  obtain ⟨ps, ⟨g', t', cs, fuel, p, q, hg', ht', hvar, hd, _, hps⟩, _, hcells⟩ := h
  obtain rfl := Option.some.inj (gNames.symm.trans hg')
  obtain rfl := Option.some.inj (gNamesType.symm.trans ht')
  have hl : cs.toList = namesL.map fun s => Value.string ⟨s.toArray⟩ := cells_of_strs Tryd.underlying86 Tryd.underlying9 cellsStr cellsNames (ss := namesL) hd
  have hlen : cs.size = 8 := by have := congrArg List.length hl; simpa [namesL] using this
  have hrow : MemPlace.cell 1 0 ∈ ps := by
    rw [hps, hlen]
    refine List.mem_append_left _ (List.mem_append_left _ ?_)
    decide
  obtain ⟨⟨c, t, hc⟩, _⟩ := hcells _ _ hrow
  have hcs : c = cs := by
    simp only [World.var?, gNames, Option.bind_some] at hvar
    rw [hc] at hvar
    simpa using hvar
  subst hcs
  refine ⟨t, ?_⟩
  rw [hc, ← hl]
theorem laid_tail1 {P : Program} {n : String} {d : DataW Unit} {rest : List (String × DataW Unit)} {W : World} (h : laidMet P ((n, d) :: rest) W) : laidMet P rest W := by
  obtain ⟨ps, ⟨g, t, cs, fuel, p, q, h1, h2, h3, h4, h5, rfl⟩, hn, hc⟩ := h
  exact ⟨q, h5, (List.nodup_append.1 hn).2.1, fun b off hm => hc b off (List.mem_append_right _ hm)⟩
/-- What the rows' list gives. -/
theorem tablesF {W : World} (h : laidMetH Tryd.prog [("bellman/decimal.bases", Rows.laid_bellman_decimal_bases), ("bellman/field.names", Rows.laid_bellman_field_names)] W) : Tab W ∧ NamesT W := by
  have h' : laidMet Tryd.prog [("bellman/decimal.bases", Rows.laid_bellman_decimal_bases), ("bellman/field.names", Rows.laid_bellman_field_names)] W := h
  have t : Lib.TabIs Tryd.prog W "bellman/decimal.bases" .u64 [10, 16] :=
    Lib.tabIs_of_head gBases gBasesType Tryd.underlying57 Tryd.underlying22 cellsU64 cellsBases h'
  exact ⟨⟨t.cell gBases 0 (by decide), t.cell gBases 1 (by decide)⟩, names_of (laid_tail1 h')⟩
theorem maxT_of {W : World} (h : W.ShapedOpen Tryd.prog) : MaxT W := by
  have hg : 3 < Tryd.prog.globals.size := of_decide_eq_true (by kernel_rfl)
  have h0 : ((begin Tryd.prog (fun _ _ => 0) default).world.heap[3]?).bind Obj.row? = some (#[.int .i64 0], 3) := by kernel_rfl
  obtain ⟨m, hm⟩ := cell_of_shapedOpen_int (k := .i64) h hg h0 rfl (by kernel_rfl) (by kernel_rfl) Tryd.underlying3
  obtain ⟨cs, hh, hs, _⟩ := h.1 _ _ _ hg h0
  have h1 : cs.size = 1 := hs
  refine ⟨m, ?_⟩
  have hc : cs[0]? = some (.int .i64 m) := by simpa [World.cell?, hh] using hm
  have hcs : cs = #[.int .i64 m] := by
    apply Array.ext
    · simp [h1]
    · intro i h2 h3
      have : i = 0 := by omega
      subst this
      have := (Array.getElem?_eq_some_iff.1 hc).2
      simpa using this
  rw [hcs] at hh
  exact hh
/-- A world for the witness. -/
noncomputable def laidWorldF (os : Os) : World :=
  { World.holding Tryd.prog os ⟨#[], #[], []⟩ with heap := (((World.holding Tryd.prog os ⟨#[], #[], []⟩).heap.modify 0 (fun
      | .cells _ t frozen => .cells #[.int .u64 10, .int .u64 16] t frozen
      | o => o)).modify 1 (fun
      | .cells _ t frozen => .cells (namesL.map fun s => Value.string ⟨s.toArray⟩).toArray t frozen
      | o => o)) }
end Go.Proofs.YtdkmajmmhngdpaaDoor
