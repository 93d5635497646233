import Derived.Test.YthpohjafnljfhaaPk19
namespace Go.Proofs.Ythpohjafnljfhaa
open Go.RowKit
attribute [local go_sem] Oper.semAt_some class_at0 class_at1 class_at2

/-! ## The document's: Trim, Token, Value -/
theorem cut1_str (b : UInt8) (r : List UInt8) : (⟨(b :: r).toArray⟩ : ByteArray).extract 1 (b :: r).length = ⟨r.toArray⟩ := by
  rw [cut_str, List.take_length]; rfl
theorem cutL_str (x : List UInt8) (b : UInt8) : (⟨(x ++ [b]).toArray⟩ : ByteArray).extract 0 ((x ++ [b]).length - 1) = ⟨x.toArray⟩ := by
  rw [cut_str]; simp
end Go.Proofs.Ythpohjafnljfhaa
