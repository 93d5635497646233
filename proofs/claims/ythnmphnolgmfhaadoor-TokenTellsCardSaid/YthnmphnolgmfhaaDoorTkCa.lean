import Derived.Test.YthnmphnolgmfhaaDoorTkB
import Derived.Laws.EntriesVeiled
namespace Go.Proofs.YthnmphnolgmfhaaDoor
open Go.RowKit
attribute [local go_sem] Oper.semAt_some
theorem byE (l : List UInt8) (j : Nat) (h : j < l.length) : (⟨l.toArray⟩ : ByteArray)[j]'h = l[j] := rfl
theorem str_eq (a b : List UInt8) : ((⟨a.toArray⟩ : ByteArray).toList == (⟨b.toArray⟩ : ByteArray).toList) = (a == b) := by simp
/-! ## Texts of a class -/
def classesV : Value := .agg #[.func (.func 37) #[] #[], .func (.func 39) #[] #[], .func (.func 40) #[] #[]]
set_option maxRecDepth 100000 in
theorem classes_any (w : World) : Calls Tryd.prog 24 #[] w fun e w' => e = .returned (.agg #[.func (.func 37) #[] #[], .func (.func 39) #[] #[], .func (.func 40) #[] #[]]) ∧ Below w.heap.size w w' := by
  go_enter Tryd.func24, Tryd.ntmps24
  go_wp2
  have k := Has.new w 40 #[.func (.func 37) #[] #[], .func (.func 39) #[] #[], .func (.func 40) #[] #[]]
  have d0 := k.cell 0
  have d1 := k.cell 1
  have d2 := k.cell 2
  simp at d0 d1 d2
  refine bodyPost_ret (v := classesV) ?_ rfl ⟨rfl, (Below.refl _ _).alloc (Nat.le_refl _) _⟩
  simp [results, Tryd.results24, go_sem, d0, d1, d2]
  rfl
theorem class_at0 (w : World) : (Instr.index 40 (.agg #[.func (.func 37) #[] #[], .func (.func 39) #[] #[], .func (.func 40) #[] #[]]) (.int .i64 0)).run Tryd.prog w = .ok (.func (.func 37) #[] #[]) w := by kernel_rfl
theorem class_at1 (w : World) : (Instr.index 40 (.agg #[.func (.func 37) #[] #[], .func (.func 39) #[] #[], .func (.func 40) #[] #[]]) (.int .i64 1)).run Tryd.prog w = .ok (.func (.func 39) #[] #[]) w := by kernel_rfl
theorem class_at2 (w : World) : (Instr.index 40 (.agg #[.func (.func 37) #[] #[], .func (.func 39) #[] #[], .func (.func 40) #[] #[]]) (.int .i64 2)).run Tryd.prog w = .ok (.func (.func 40) #[] #[]) w := by kernel_rfl
end Go.Proofs.YthnmphnolgmfhaaDoor
