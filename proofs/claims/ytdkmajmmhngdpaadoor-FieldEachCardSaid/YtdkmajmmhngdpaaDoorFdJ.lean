import Derived.Test.YtdkmajmmhngdpaaDoorFdI
namespace Go.Proofs.YtdkmajmmhngdpaaDoor
open Go.RowKit Go.Maps

/-! ## What is asked of a value -/
def hasNought (l : List UInt8) : Bool := decide (0 ≤ Lib.indexByte l 0)
theorem ask1_any (b : Nat) (l : List UInt8) (w : World) (hb : Has w b 9 #[.string ⟨l.toArray⟩]) : Calls Tryd.prog 92 #[.pointer (some ⟨b, 0, none⟩)] w fun e w' => e = .returned (.bool (!hasNought l)) ∧ w = w' := by
  have c0 := hb.cell 0
  have hct := Lib.hid (fun W => Tryd.strings_Contains_one ⟨l.toArray⟩ 0 W)
  rw [show (ByteArray.mk l.toArray).data.toList = l from by simp] at hct
  clear hb
  go_enter Tryd.func92, Tryd.ntmps92
  go_wp2_with (go_at_call 90; (with_reducible refine Calls.mono (hct.out _) ?_); rintro e w1 ⟨rfl, rfl⟩)
  go_ret
  exact ⟨rfl, rfl⟩
theorem ask0_any (w : World) : Calls Tryd.prog 62 #[] w fun e w' => e = .returned (.bool true) ∧ w = w' := by
  go_enter Tryd.func62, Tryd.ntmps62
  go_wp2
  go_ret
  exact ⟨rfl, rfl⟩
end Go.Proofs.YtdkmajmmhngdpaaDoor
