import Derived.Test.YtdkmajmmhngdpaaDoorFdO
namespace Go.Proofs.YtdkmajmmhngdpaaDoor
open Go.RowKit Go.Maps

/-! ## Where the law asks the chapter's rows alone -/
theorem sizeL (l : List UInt8) : (ByteArray.mk l.toArray).size = l.length := by show l.toArray.size = _; simp
set_option maxRecDepth 100000 in
theorem holdsF_works (a b : List UInt8) (w : World) (hN : NamesT w) (hM : MaxT w) (hT : Tab w) (h : 300 < a.length ∨ 300 < b.length) : Calls Tryd.prog 8 #[.string ⟨a.toArray⟩, .string ⟨b.toArray⟩] w fun e w' => e = .returned (.bool true) ∧ Below w.heap.size w w' := by
  have hwk := Lib.hid (worksF_any w hN hM hT)
  clear hN hM hT
  by_cases h1 : 300 < a.length
  · have h1' : (300 : Int) < (a.length : Int) := by omega
    clear h
    go_enter Tryd.func8, Tryd.ntmps8
    go_wp2_with (go_at_call 23; (with_reducible refine Calls.mono hwk.out ?_); rintro e w1 ⟨rfl, hb1⟩)
    go_ret
    exact ⟨rfl, hb1⟩
  · have h2' : (300 : Int) < (b.length : Int) := by omega
    have h1' : (a.length : Int) ≤ 300 := by omega
    clear h
    go_enter Tryd.func8, Tryd.ntmps8
    go_wp2_with (go_at_call 23; (with_reducible refine Calls.mono hwk.out ?_); rintro e w1 ⟨rfl, hb1⟩)
    go_ret
    exact ⟨rfl, hb1⟩
end Go.Proofs.YtdkmajmmhngdpaaDoor
