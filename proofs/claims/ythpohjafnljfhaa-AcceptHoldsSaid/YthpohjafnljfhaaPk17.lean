import Derived.Test.YthpohjafnljfhaaPk13
import Derived.Test.YthpohjafnljfhaaPk16
import Derived.Laws.EntriesVeiled
namespace Go.Proofs.Ythpohjafnljfhaa
open Go.RowKit
attribute [local go_sem] Oper.semAt_some
theorem str_eq (a b : List UInt8) : ((⟨a.toArray⟩ : ByteArray).toList == (⟨b.toArray⟩ : ByteArray).toList) = (a == b) := by simp
/-! ## Texts of a class -/
def classesV : Value := .agg #[.func (.func 41) #[] #[], .func (.func 43) #[] #[], .func (.func 44) #[] #[]]
set_option maxRecDepth 100000 in
theorem classes_any (w : World) : Calls Try.prog 31 #[] w fun e w' => e = .returned (.agg #[.func (.func 41) #[] #[], .func (.func 43) #[] #[], .func (.func 44) #[] #[]]) ∧ Below w.heap.size w w' := by
  go_enter Try.func31, Try.ntmps31
  go_wp2
  have k := Has.new w 66 #[.func (.func 41) #[] #[], .func (.func 43) #[] #[], .func (.func 44) #[] #[]]
  have d0 := k.cell 0
  have d1 := k.cell 1
  have d2 := k.cell 2
  simp at d0 d1 d2
  refine bodyPost_ret (v := classesV) ?_ rfl ⟨rfl, (Below.refl _ _).alloc (Nat.le_refl _) _⟩
  simp [results, Try.results31, go_sem, d0, d1, d2]
  rfl
theorem class_at0 (w : World) : (Instr.index 66 (.agg #[.func (.func 41) #[] #[], .func (.func 43) #[] #[], .func (.func 44) #[] #[]]) (.int .i64 0)).run Try.prog w = .ok (.func (.func 41) #[] #[]) w := by kernel_rfl
theorem class_at1 (w : World) : (Instr.index 66 (.agg #[.func (.func 41) #[] #[], .func (.func 43) #[] #[], .func (.func 44) #[] #[]]) (.int .i64 1)).run Try.prog w = .ok (.func (.func 43) #[] #[]) w := by kernel_rfl
theorem class_at2 (w : World) : (Instr.index 66 (.agg #[.func (.func 41) #[] #[], .func (.func 43) #[] #[], .func (.func 44) #[] #[]]) (.int .i64 2)).run Try.prog w = .ok (.func (.func 44) #[] #[]) w := by kernel_rfl
end Go.Proofs.Ythpohjafnljfhaa
