import Derived.Test.YtajdlkohnafbeaaVf
import Derived.Test.YtajdlkohnafbeaaVo
namespace Go.Proofs.Ytajdlkohnafbeaa
open Go.ChangeShapes Go.WideShapes Go.ChangeAt Go.RowKit Go.Deep

/-! ## Two calls, as an array -/
theorem okWide_array_ {P : Program} {w : World} {r : Reach} {base : Nat} {t e : TypeId} {n : Nat} {v : Value} (ht : P.underlying t = some (.array n e)) (h : Value.okWide P w r base t v) : ∃ cs, v = .agg cs ∧ cs.size = P.cellsOf t := by
  simp only [Value.okWide, ht] at h
  obtain ⟨cs, h1, h2, _⟩ := h
  exact ⟨cs, h1, h2⟩
theorem six {α : Type} {l : List α} (h : l.length = 6) : ∃ a b c d e f, l = [a, b, c, d, e, f] := by
  match l, h with
  | [a, b, c, d, e, f], _ => exact ⟨a, b, c, d, e, f, rfl⟩
theorem two_ {α : Type} {l : List α} (h : l.length = 2) : ∃ a b, l = [a, b] := by
  match l, h with
  | [a, b], _ => exact ⟨a, b, rfl⟩
section
variable {H : Type} {enc : TypeId × Value → H}
theorem deed_cells {W : World} {held : Bool} {fuel : Nat} {c0 c1 c2 : Value} {y : DataW H × List MemPlace} (ht : DataW.trod enc Try.prog W 0 (fun _ => true) held fuel 38 [c0, c1, c2] = some y) :
    ∃ d : Deed, c0 = .int .i64 d.what ∧ c1 = .int .i64 d.val ∧ c2 = .int .u64 (d.far : Int) := by
  have k1 : Try.prog.cellsOf 3 = 1 := by kernel_rfl
  have k2 : Try.prog.cellsOf 22 = 1 := by kernel_rfl
  obtain ⟨y0, y1, y2, k, hy, _, h0, h1, h2⟩ := trod_struct3 Try.underlying38 ht
  exact deed_of (by simpa [k1] using h0) (by simpa [k1] using h1) (by simpa [k2] using h2)
theorem pair_of {W : World} {held : Bool} {fuel : Nat} {cs : Array Value} {y : DataW H × List MemPlace} (h : DataW.trod enc Try.prog W 0 (fun _ => true) held fuel 41 cs.toList = some y) :
    ∃ d e : Deed, cs = pairCells d e := by
  obtain ⟨xs, m, _, hx, hl, hxl, hi⟩ := DataW.trod_array Try.underlying41 h
  have hC : Try.prog.cellsOf 38 = 3 := by kernel_rfl
  have hC2 : Try.prog.cellsOf 41 = 6 := by kernel_rfl
  rw [hC2] at hl
  rw [hC] at hi
  obtain ⟨c0, c1, c2, c3, c4, c5, hcs⟩ := six hl
  obtain ⟨x0, x1, rfl⟩ := two_ hxl
  rw [hcs] at hi
  have i0 := hi 0 (by omega)
  have i1 := hi 1 (by omega)
  simp only [Nat.zero_mul, Nat.one_mul, List.drop_zero, List.drop_succ_cons, List.take_succ_cons, List.take_zero, List.getElem?_cons_zero, List.getElem?_cons_succ] at i0 i1
  obtain ⟨d, e0, e1, e2⟩ := deed_cells i0
  obtain ⟨e, e4, e5, e6⟩ := deed_cells i1
  refine ⟨d, e, ?_⟩
  have : cs = [c0, c1, c2, c3, c4, c5].toArray := by rw [← hcs]
  rw [this, e0, e1, e2, e4, e5, e6]
  rfl
end
end Go.Proofs.Ytajdlkohnafbeaa
