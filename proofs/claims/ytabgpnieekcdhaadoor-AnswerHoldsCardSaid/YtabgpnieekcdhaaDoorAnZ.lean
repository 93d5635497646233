import Derived.Test.YtabgpnieekcdhaaDoorCards
import Derived.Test.YtabgpnieekcdhaaDoorTie
import Derived.Test.YtabgpnieekcdhaaDoorY
import Derived.Test.YtabgpnieekcdhaaDoorAnH
import Derived.ProofKit
import Derived.OpenShut
import Derived.Deep.Slices
import Derived.Deep.Fields
import Derived.Deep.DeepHandedRow
import Derived.Lib.LaidTab
import Derived.Shelf.Vars
import Derived.LaidMore
import Derived.Lay
import Derived.Stop.Joined
namespace Go.Proofs.YtabgpnieekcdhaaDoor
open Go.ChangeShapes Go.WideShapes Go.ChangeAt Go.RowKit Go.Deep

/-! ## What the rows give: the two tables -/
theorem gBases : Tryd.prog.globalNamed "bellman/decimal.bases" = some 1 := by kernel_rfl
theorem gBasesType : (Tryd.prog.globals[1]?).map (·.type) = some 100 := by kernel_rfl
theorem cellsBases : Tryd.prog.cellsOf 100 = 2 := by kernel_rfl
theorem cellsU64 : Tryd.prog.cellsOf 58 = 1 := by kernel_rfl
theorem gStats : Tryd.prog.globalNamed "bellman/answer.statuses" = some 0 := by kernel_rfl
theorem gStatsType : (Tryd.prog.globals[0]?).map (·.type) = some 74 := by kernel_rfl
theorem cellsStats : Tryd.prog.cellsOf 74 = 16 := by kernel_rfl
theorem cellsStat1 : Tryd.prog.cellsOf 73 = 2 := by kernel_rfl
theorem cells64 : Tryd.prog.cellsOf 3 = 1 := by kernel_rfl
theorem cellsStr : Tryd.prog.cellsOf 9 = 1 := by kernel_rfl
theorem statDesc : ∃ fs, Tryd.prog.underlying 73 = some (.struct fs) ∧ fs.toList.map (fun f => (f.type, f.offset)) = [(3, 0), (9, 1)] := ⟨_, Tryd.underlying73, by kernel_rfl⟩
section
variable {H : Type} {enc : TypeId × Value → H}
set_option maxRecDepth 100000 in
theorem stat_row_of {W : World} {sp : Nat → Bool} {held : Bool} {fuel : Nat} {cs : List Value} {x : DataW H × List MemPlace} (h : DataW.trod enc Tryd.prog W 0 sp held fuel 73 cs = some x) (a : Int) (b : List UInt8)
    (hx : x.1 = .agg [.lit (.int .i64 a), .lit (.string b)]) : cs = [.int .i64 a, .string ⟨b.toArray⟩] := by
  obtain ⟨fs, hs, hfs⟩ := statDesc
  obtain ⟨xs, n, _, rfl, hl, hxl, hf⟩ := DataW.trod_struct hs h
  rw [cellsStat1] at hl
  simp only [DataW.agg.injEq] at hx
  obtain ⟨v0, v1, rfl⟩ : ∃ v0 v1, cs = [v0, v1] := by
    match cs, hl with
    | [v0, v1], _ => exact ⟨v0, v1, rfl⟩
  obtain ⟨y0, y1, rfl⟩ : ∃ y0 y1, xs = [y0, y1] := by
    have := congrArg List.length hx
    simp at this
    match xs, this with
    | [y0, y1], _ => exact ⟨y0, y1, rfl⟩
  simp only [List.map_cons, List.map_nil, List.cons.injEq, and_true] at hx
  obtain ⟨x0, x1⟩ := hx
  have key : ∀ (i : Nat) (t o : Nat), (fs.toList.map (fun f => (f.type, f.offset)))[i]? = some (t, o) → DataW.trod enc Tryd.prog W 0 sp held n t (([v0, v1].drop o).take (Tryd.prog.cellsOf t)) = [y0, y1][i]? := by
    intro i t o hi
    rw [List.getElem?_map] at hi
    cases hfi : fs.toList[i]? with
    | none => rw [hfi] at hi; cases hi
    | some f =>
      rw [hfi] at hi
      simp only [Option.map_some, Option.some.injEq, Prod.mk.injEq] at hi
      have := hf i f (by rw [← Array.getElem?_toList]; exact hfi)
      rw [hi.1, hi.2] at this
      exact this
  have k0 := key 0 3 0 (by rw [hfs]; rfl)
  have k1 := key 1 9 1 (by rw [hfs]; rfl)
  rw [cells64] at k0
  rw [cellsStr] at k1
  obtain ⟨z, hc, hd, _⟩ := DataW.trod_int Tryd.underlying3 k0
  obtain ⟨s, hc2, hd2, _⟩ := DataW.trod_string Tryd.underlying9 k1
  obtain rfl : v0 = .int .i64 z := by simpa using hc
  obtain rfl : v1 = .string s := by simpa using hc2
  have e1 : a = z := by
    have : (DataW.lit (.int .i64 a) : DataW H) = .lit (.int .i64 z) := x0.symm.trans (by rw [hd])
    simpa using this
  have e2 : b = s.data.toList := by
    have : (DataW.lit (.string b) : DataW H) = .lit (.string s.data.toList) := x1.symm.trans (by rw [hd2])
    simpa using this
  subst e1 e2
  rfl
end
def statRows : List (List Value) := An.stats.map fun p => [Value.int .i64 (p.1 : Int), .string ⟨p.2.toArray⟩]
theorem chunks2 {cs : List Value} (hl : cs.length = 16) (rows : List (List Value)) (hr : rows.length = 8) (h : ∀ i, i < 8 → some ((cs.drop (i * 2)).take 2) = rows[i]?) : cs = rows.flatten := by
  have h0 := h 0 (by omega); have h1 := h 1 (by omega); have h2 := h 2 (by omega); have h3 := h 3 (by omega); have h4 := h 4 (by omega)
  have h5 := h 5 (by omega); have h6 := h 6 (by omega); have h7 := h 7 (by omega)
  match rows, hr with
  | [a0, a1, a2, a3, a4, a5, a6, a7], _ =>
    simp at h0 h1 h2 h3 h4 h5 h6 h7
    subst h0; subst h1; subst h2; subst h3; subst h4; subst h5; subst h6; subst h7
    simp only [List.flatten_cons, List.flatten_nil, List.append_nil]
    have e : ∀ k, cs.drop k = (cs.drop k).take 2 ++ cs.drop (k + 2) := fun k => by rw [← List.drop_drop, List.take_append_drop]
    have e16 : cs.drop 16 = [] := List.drop_of_length_le (by omega)
    have f0 := e 0; have f1 := e 2; have f2 := e 4; have f3 := e 6; have f4 := e 8; have f5 := e 10; have f6 := e 12; have f7 := e 14
    simp only [Nat.reduceAdd, List.drop_zero, Nat.zero_add] at f0 f1 f2 f3 f4 f5 f6 f7
    rw [e16, List.append_nil] at f7
    conv => lhs; rw [f0, f1, f2, f3, f4, f5, f6]
    rw [← f7]
/-- What the row's second table gives. -/
theorem stats_of {W : World} {rest : List (String × DataW Unit)} (h : laidMet Tryd.prog (("bellman/answer.statuses", Rows.laid_bellman_answer_statuses) :: rest) W) : TabS W := by
  obtain ⟨ps, ⟨g', t', cs, fuel, p, q, hg', ht', hvar, hd, _, hps⟩, _, hcells⟩ := h
  obtain rfl := Option.some.inj (gStats.symm.trans hg')
  obtain rfl := Option.some.inj (gStatsType.symm.trans ht')
  obtain ⟨xs, n, _, hx, hl, hxl, hf⟩ := DataW.trod_array Tryd.underlying74 hd
  rw [cellsStats] at hl
  have hlen : cs.size = 16 := by simpa using hl
  have hrow : MemPlace.cell 0 0 ∈ ps := by
    rw [hps, hlen]
    refine List.mem_append_left _ (List.mem_append_left _ ?_)
    decide
  obtain ⟨⟨c, t, hc⟩, _⟩ := hcells _ _ hrow
  have hcs : c = cs := by
    simp only [World.var?, gStats, Option.bind_some] at hvar
    rw [hc] at hvar
    simpa using hvar
  subst hcs
  have hxm : xs.map (·.1) = _ := (congrArg (fun z : DataW Unit × List MemPlace => match z.1 with | .agg l => l | _ => []) hx).symm
  have hlist : c.toList = statL := by
    have hch := chunks2 hl (statRows) rfl (by
      intro i hi
      have hfi := hf i hi
      rw [cellsStat1] at hfi
      obtain ⟨y, hy⟩ : ∃ y, xs[i]? = some y := ⟨xs[i]'(by omega), List.getElem?_eq_getElem (by omega)⟩
      rw [hy] at hfi
      have hy1 : (xs.map (·.1))[i]? = some y.1 := by rw [List.getElem?_map, hy]; rfl
      rw [hxm] at hy1
      have his : i = 0 ∨ i = 1 ∨ i = 2 ∨ i = 3 ∨ i = 4 ∨ i = 5 ∨ i = 6 ∨ i = 7 := by omega
      rcases his with rfl | rfl | rfl | rfl | rfl | rfl | rfl | rfl <;> exact congrArg some (stat_row_of hfi _ _ (Option.some.inj hy1).symm))
    rw [hch]; rfl
  refine ⟨t, ?_⟩
  rw [hc, ← hlist]
theorem laid_tail1 {P : Program} {n : String} {d : DataW Unit} {rest : List (String × DataW Unit)} {W : World} (h : laidMet P ((n, d) :: rest) W) : laidMet P rest W := by
  obtain ⟨ps, ⟨g, t, cs, fuel, p, q, h1, h2, h3, h4, h5, rfl⟩, hn, hc⟩ := h
  exact ⟨q, h5, (List.nodup_append.1 hn).2.1, fun b off hm => hc b off (List.mem_append_right _ hm)⟩
/-- What the rows' list gives. -/
theorem tabN_of {W : World} (h : laidMetH Tryd.prog [("bellman/decimal.bases", Rows.laid_bellman_decimal_bases), ("bellman/answer.statuses", Rows.laid_bellman_answer_statuses)] W) : TabN W := by
  have h0 : laidMet Tryd.prog [("bellman/decimal.bases", Rows.laid_bellman_decimal_bases), ("bellman/answer.statuses", Rows.laid_bellman_answer_statuses)] W := h
  have t : Lib.TabIs Tryd.prog W "bellman/decimal.bases" .u64 [10, 16] :=
    Lib.tabIs_of_head gBases gBasesType Tryd.underlying100 Tryd.underlying58 cellsU64 cellsBases h0
  exact ⟨⟨t.cell gBases 0 (by decide), t.cell gBases 1 (by decide)⟩, stats_of (laid_tail1 h0)⟩
/-- A start that is shaped, as its parts say, and meets a row's list. -/
theorem witness_row_sh {H : Type} {enc : TypeId × Value → H} {C : Checked} {os : Os} {f : FuncId} {fn : Func} {s : OpenSpec} {conds : List PathCond} {apart : Bool} {laid : List (String × DataW Unit)} (modest : Bool) (w0 : World) (args : Array Value) (hos : w0.os = os)
    (hsh : (w0.forCall (fun _ _ => 0) ⟨#[], args, []⟩).Shaped C.prog)
    (hok : Input.okWideB C.prog (w0.forCall (fun _ _ => 0) ⟨#[], args, []⟩) f ⟨#[], args, []⟩ = true)
    (hrow : s.preRow enc C.prog fn conds apart laid (w0.forCall (fun _ _ => 0) ⟨#[], args, []⟩).memory args) :
    ∃ (w : World) (tape : Tape) (i : Input), w.os = os ∧ (w.forCall tape i).Shaped C.prog ∧ i.vars = [] ∧ Input.okWide C.prog (w.forCall tape i) .any w.heap.size f i ∧
      s.preRow enc C.prog fn conds apart laid (w.forCall tape i).memory i.args ∧ ({ modest := modest } : Assume).holds C.prog (lone (Frame.enter C.prog f i.args .normal) [] (w.forCall tape i)) :=
  ⟨w0, fun _ _ => 0, ⟨#[], args, []⟩, hos, hsh, (Input.okWide_of_okWideB (base := 0) hok).1, (Input.okWide_of_okWideB hok).2, hrow, by
    simp only [Assume.holds]
    exact ⟨by simp, by simp, fun _ => Modest.zero, by simp, by simp⟩⟩
end Go.Proofs.YtabgpnieekcdhaaDoor
