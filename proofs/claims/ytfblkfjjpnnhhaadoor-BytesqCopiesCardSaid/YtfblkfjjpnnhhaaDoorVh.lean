import Derived.Test.YtfblkfjjpnnhhaaDoorVg
import Derived.Test.YtfblkfjjpnnhhaaDoorO
namespace Go.Proofs.YtfblkfjjpnnhhaaDoor
open Go.ChangeShapes Go.WideShapes Go.ChangeAt Go.RowKit Go.Deep

/-! ## Two calls, as an array -/
theorem okWide_array_ {P : Program} {w : World} {r : Reach} {base : Nat} {t e : TypeId} {n : Nat} {v : Value} (ht : P.underlying t = some (.array n e)) (h : Value.okWide P w r base t v) : ∃ cs, v = .agg cs ∧ cs.size = P.cellsOf t := by
  simp only [Value.okWide, ht] at h
  obtain ⟨cs, h1, h2, _⟩ := h
  exact ⟨cs, h1, h2⟩
theorem eight {α : Type} {l : List α} (h : l.length = 8) : ∃ a b c d e f g i, l = [a, b, c, d, e, f, g, i] := by
  match l, h with
  | [a, b, c, d, e, f, g, i], _ => exact ⟨a, b, c, d, e, f, g, i, rfl⟩
theorem two_ {α : Type} {l : List α} (h : l.length = 2) : ∃ a b, l = [a, b] := by
  match l, h with
  | [a, b], _ => exact ⟨a, b, rfl⟩
section
variable {H : Type} {enc : TypeId × Value → H}
theorem deed_cells {W : World} {held : Bool} {fuel : Nat} {c0 c1 c2 c3 : Value} {y : DataW H × List MemPlace} (ht : DataW.trod enc Tryd.prog W 0 (fun _ => true) held fuel 36 [c0, c1, c2, c3] = some y) (hw : ∀ n ∈ y.1.weights Tryd.prog 36, n ≤ reachBytes) :
    ∃ d : Deed, c0 = .int .i64 d.what ∧ c1 = .int .i64 d.n ∧ c2 = d.a.val ∧ c3 = d.b.val ∧ DeedOk W (· < W.heap.size) d := by
  have k1 : Tryd.prog.cellsOf 3 = 1 := by kernel_rfl
  have k2 : Tryd.prog.cellsOf 30 = 1 := by kernel_rfl
  obtain ⟨y0, y1, y2, y3, k, hy, _, h0, h1, h2, h3⟩ := Go.Joins.trod_struct4 Tryd.underlying36 ht
  subst hy
  exact deed_of (by simpa [k1] using h0) (by simpa [k1] using h1) (by simpa [k2] using h2) (by simpa [k2] using h3) hw
theorem pair_of {W : World} {held : Bool} {fuel : Nat} {cs : Array Value} {y : DataW H × List MemPlace} (h : DataW.trod enc Tryd.prog W 0 (fun _ => true) held fuel 39 cs.toList = some y) (hw : ∀ n ∈ y.1.weights Tryd.prog 39, n ≤ reachBytes) :
    ∃ d e : Deed, cs = pairCells d e ∧ DeedOk W (· < W.heap.size) d ∧ DeedOk W (· < W.heap.size) e := by
  obtain ⟨xs, m, _, hx, hl, hxl, hi⟩ := DataW.trod_array Tryd.underlying39 h
  have hC : Tryd.prog.cellsOf 36 = 4 := by kernel_rfl
  have hC2 : Tryd.prog.cellsOf 39 = 8 := by kernel_rfl
  rw [hC2] at hl
  rw [hC] at hi
  obtain ⟨c0, c1, c2, c3, c4, c5, c6, c7, hcs⟩ := eight hl
  obtain ⟨x0, x1, rfl⟩ := two_ hxl
  rw [hcs] at hi
  have i0 := hi 0 (by omega)
  have i1 := hi 1 (by omega)
  simp only [Nat.zero_mul, Nat.one_mul, List.drop_zero, List.drop_succ_cons, List.take_succ_cons, List.take_zero, List.getElem?_cons_zero, List.getElem?_cons_succ] at i0 i1
  subst hx
  have hmem : ∀ x, x ∈ [x0, x1] → ∀ n ∈ x.1.weights Tryd.prog 36, n ≤ reachBytes := by
    intro x hxm n hn
    refine hw n ?_
    simp only [DataW.weights, Tryd.underlying39]
    exact mem_weightsAll (d := x.1) (List.mem_map.2 ⟨x, hxm, rfl⟩) hn
  obtain ⟨d, e0, e1, e2, e3, hd⟩ := deed_cells i0 (hmem x0 (by simp))
  obtain ⟨e, e4, e5, e6, e7, he⟩ := deed_cells i1 (hmem x1 (by simp))
  refine ⟨d, e, ?_, hd, he⟩
  have : cs = [c0, c1, c2, c3, c4, c5, c6, c7].toArray := by rw [← hcs]
  rw [this, e0, e1, e2, e3, e4, e5, e6, e7]
  rfl
end
end Go.Proofs.YtfblkfjjpnnhhaaDoor
