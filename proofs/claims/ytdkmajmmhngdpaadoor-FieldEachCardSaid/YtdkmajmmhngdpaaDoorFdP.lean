import Derived.Test.YtdkmajmmhngdpaaDoorFdO
namespace Go.Proofs.YtdkmajmmhngdpaaDoor
open Go.RowKit Go.Maps

/-! ## The stage's theorem -/
theorem of_law (l : List UInt8) (w0 w : World) (hb : Below w0.heap.size w0 w) (hN : NamesT w0) (hM : MaxT w0) (hl : l.length ≤ 1000000) :
    Calls Tryd.prog 24 #[.string ⟨l.toArray⟩] w fun e w' => e = .returned (.agg #[.int .i64 (fieldF l).1, .string ⟨(fieldF l).2.1.toArray⟩, .string ⟨(fieldF l).2.2.toArray⟩]) ∧ Below w.heap.size w w' ∧ Below w0.heap.size w0 w' := by
  refine (ofF_any l w hl (hN.below hb) (hM.below hb)).mono ?_
  rintro e w' ⟨rfl, h⟩
  exact ⟨rfl, h, hb.trans (h.mono hb.size)⟩
theorem line_law (f : Int × List UInt8 × List UInt8) (w0 w : World) (hb : Below w0.heap.size w0 w) (hN : NamesT w0) (h1 : f.2.1.length ≤ 1000000) (h2 : f.2.2.length ≤ 1000000) (hs : sayF f = true) :
    Calls Tryd.prog 28 #[.agg #[.int .i64 f.1, .string ⟨f.2.1.toArray⟩, .string ⟨f.2.2.toArray⟩]] w fun e w' => e = .returned (.tuple #[.string ⟨(lineF f).toArray⟩, .int .i64 0]) ∧ Below w.heap.size w w' ∧ Below w0.heap.size w0 w' := by
  refine (lineF_any f w h1 h2 (hN.below hb)).mono ?_
  rintro e w' ⟨rfl, h⟩
  refine ⟨?_, h, hb.trans (h.mono hb.size)⟩
  unfold lineOf
  rw [if_pos hs]
theorem lineF_len (f : Int × List UInt8 × List UInt8) (n : Nat) (h1 : f.2.1.length ≤ n) (h2 : f.2.2.length ≤ n) : (lineF f).length ≤ n + 2 + n := by
  unfold lineF betw
  split
  · simp; omega
  · split <;> simp <;> omega
/-- The operations that the law's last '||' may leave out. -/
def ldA : Op := .load 37 (.tmp 5)
def ldB : Op := .load 37 (.tmp 6)
def eqA : Op := .binOp .eql 37 (.tmp 66) (.tmp 67) 37
end Go.Proofs.YtdkmajmmhngdpaaDoor
