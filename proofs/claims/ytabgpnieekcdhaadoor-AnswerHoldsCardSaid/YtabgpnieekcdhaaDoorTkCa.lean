import Derived.Test.YtabgpnieekcdhaaDoorBs
import Derived.Test.YtabgpnieekcdhaaDoorTkB
import Derived.Laws.EntriesVeiled
namespace Go.Proofs.YtabgpnieekcdhaaDoor
open Go.RowKit
attribute [local go_sem] Oper.semAt_some
theorem str_eq (a b : List UInt8) : ((⟨a.toArray⟩ : ByteArray).toList == (⟨b.toArray⟩ : ByteArray).toList) = (a == b) := by simp
/-! ## Texts of a class -/
def classesV : Value := .agg #[.func (.func 80) #[] #[], .func (.func 82) #[] #[], .func (.func 83) #[] #[]]
set_option maxRecDepth 100000 in
theorem classes_any (w : World) : Calls Tryd.prog 76 #[] w fun e w' => e = .returned (.agg #[.func (.func 80) #[] #[], .func (.func 82) #[] #[], .func (.func 83) #[] #[]]) ∧ Below w.heap.size w w' := by
  go_enter Tryd.func76, Tryd.ntmps76
  go_wp2
  have k := Has.new w 122 #[.func (.func 80) #[] #[], .func (.func 82) #[] #[], .func (.func 83) #[] #[]]
  have d0 := k.cell 0
  have d1 := k.cell 1
  have d2 := k.cell 2
  simp at d0 d1 d2
  refine bodyPost_ret (v := classesV) ?_ rfl ⟨rfl, (Below.refl _ _).alloc (Nat.le_refl _) _⟩
  simp [results, Tryd.results76, go_sem, d0, d1, d2]
  rfl
theorem class_at0 (w : World) : (Instr.index 122 (.agg #[.func (.func 80) #[] #[], .func (.func 82) #[] #[], .func (.func 83) #[] #[]]) (.int .i64 0)).run Tryd.prog w = .ok (.func (.func 80) #[] #[]) w := by kernel_rfl
theorem class_at1 (w : World) : (Instr.index 122 (.agg #[.func (.func 80) #[] #[], .func (.func 82) #[] #[], .func (.func 83) #[] #[]]) (.int .i64 1)).run Tryd.prog w = .ok (.func (.func 82) #[] #[]) w := by kernel_rfl
theorem class_at2 (w : World) : (Instr.index 122 (.agg #[.func (.func 80) #[] #[], .func (.func 82) #[] #[], .func (.func 83) #[] #[]]) (.int .i64 2)).run Tryd.prog w = .ok (.func (.func 83) #[] #[]) w := by kernel_rfl
end Go.Proofs.YtabgpnieekcdhaaDoor
