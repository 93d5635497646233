import Derived.Test.YtbmemkbfignlaaaGreatDoorPk2
import Derived.Test.YtbmemkbfignlaaaGreatDoorPk20
import Derived.Laws.EntriesVeiled
namespace Go.Proofs.YtbmemkbfignlaaaGreatDoor
open Go.RowKit
attribute [local go_sem] Oper.semAt_some
theorem str_eq (a b : List UInt8) : ((⟨a.toArray⟩ : ByteArray).toList == (⟨b.toArray⟩ : ByteArray).toList) = (a == b) := by simp
/-! ## Texts of a class -/
def classesV : Value := .agg #[.func (.func 103) #[] #[], .func (.func 105) #[] #[], .func (.func 106) #[] #[]]
set_option maxRecDepth 100000 in
theorem classes_any (w : World) : Calls Tryz.prog 77 #[] w fun e w' => e = .returned (.agg #[.func (.func 103) #[] #[], .func (.func 105) #[] #[], .func (.func 106) #[] #[]]) ∧ Below w.heap.size w w' := by
  go_enter Tryz.func77, Tryz.ntmps77
  go_wp2
  have k := Has.new w 120 #[.func (.func 103) #[] #[], .func (.func 105) #[] #[], .func (.func 106) #[] #[]]
  have d0 := k.cell 0
  have d1 := k.cell 1
  have d2 := k.cell 2
  simp at d0 d1 d2
  refine bodyPost_ret (v := classesV) ?_ rfl ⟨rfl, (Below.refl _ _).alloc (Nat.le_refl _) _⟩
  simp [results, Tryz.results77, go_sem, d0, d1, d2]
  rfl
theorem class_at0 (w : World) : (Instr.index 120 (.agg #[.func (.func 103) #[] #[], .func (.func 105) #[] #[], .func (.func 106) #[] #[]]) (.int .i64 0)).run Tryz.prog w = .ok (.func (.func 103) #[] #[]) w := by kernel_rfl
theorem class_at1 (w : World) : (Instr.index 120 (.agg #[.func (.func 103) #[] #[], .func (.func 105) #[] #[], .func (.func 106) #[] #[]]) (.int .i64 1)).run Tryz.prog w = .ok (.func (.func 105) #[] #[]) w := by kernel_rfl
theorem class_at2 (w : World) : (Instr.index 120 (.agg #[.func (.func 103) #[] #[], .func (.func 105) #[] #[], .func (.func 106) #[] #[]]) (.int .i64 2)).run Tryz.prog w = .ok (.func (.func 106) #[] #[]) w := by kernel_rfl
end Go.Proofs.YtbmemkbfignlaaaGreatDoor
