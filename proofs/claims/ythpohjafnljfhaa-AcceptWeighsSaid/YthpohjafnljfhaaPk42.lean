import Derived.Test.YthpohjafnljfhaaPk40
import Derived.Test.YthpohjafnljfhaaPk41
import Derived.ProofKit
import Derived.OpenShut
import Derived.Deep.DeepHandedRow
import Derived.Lib.LaidTab
import Derived.Shelf.Vars
import Derived.LaidMore
import Derived.Lay
import Derived.Stop.Joined
namespace Go.Proofs.Ythpohjafnljfhaa
open Go.ChangeShapes Go.WideShapes Go.ChangeAt Go.RowKit

/-! ## The program's calls; what the rows give -/
theorem acProg : AcProg where
  weigh := fun x w _ _ => weighA_any x w
  parse := fun s w hT hs => parseA_any s w hT (by omega)
  quality := fun s k u w hT hs _ _ hk hu => qualA_any s k u w hT (by omega) hk hu
  takes := fun s k u w hT hs _ _ hk hu => takesA_any s k u w hT (by omega) hk hu
theorem tabA_of {p : Prop} {W : World} (_ : p) (h : W.ShapedOpen Try.prog) : TabA W := by
  have hg : 1 < Try.prog.globals.size := of_decide_eq_true (by kernel_rfl)
  have h0 : ((begin Try.prog (fun _ _ => 0) default).world.heap[1]?).bind Obj.row? = some (#[.int .i64 0], 3) := by kernel_rfl
  obtain ⟨m, hm⟩ := cell_of_shapedOpen_int (k := .i64) h hg h0 rfl (by kernel_rfl) (by kernel_rfl) Try.underlying3
  obtain ⟨cs, hh, hs, _⟩ := h.1 _ _ _ hg h0
  have h1 : cs.size = 1 := hs
  refine ⟨m, ?_⟩
  have hc : cs[0]? = some (.int .i64 m) := by simpa [World.cell?, hh] using hm
  have hcs : cs = #[.int .i64 m] := by
    apply Array.ext
    · simp [h1]
    · intro i h2 h3
      have : i = 0 := by omega
      subst this
      have := (Array.getElem?_eq_some_iff.1 hc).2
      simpa using this
  rw [hcs] at hh
  exact hh
/-- A start that is shaped, as its parts say, and meets a row's list. -/
theorem witness_row_sh {H : Type} {enc : TypeId × Value → H} {C : Checked} {os : Os} {f : FuncId} {fn : Func} {s : OpenSpec} {conds : List PathCond} {apart : Bool} {laid : List (String × DataW Unit)} (modest : Bool) (w0 : World) (args : Array Value) (hos : w0.os = os)
    (hsh : (w0.forCall (fun _ _ => 0) ⟨#[], args, []⟩).Shaped C.prog)
    (hok : Input.okWideB C.prog (w0.forCall (fun _ _ => 0) ⟨#[], args, []⟩) f ⟨#[], args, []⟩ = true)
    (hrow : s.preRow enc C.prog fn conds apart laid (w0.forCall (fun _ _ => 0) ⟨#[], args, []⟩).memory args) :
    ∃ (w : World) (tape : Tape) (i : Input), w.os = os ∧ (w.forCall tape i).Shaped C.prog ∧ i.vars = [] ∧ Input.okWide C.prog (w.forCall tape i) .any w.heap.size f i ∧
      s.preRow enc C.prog fn conds apart laid (w.forCall tape i).memory i.args ∧ ({ modest := modest } : Assume).holds C.prog (lone (Frame.enter C.prog f i.args .normal) [] (w.forCall tape i)) :=
  ⟨w0, fun _ _ => 0, ⟨#[], args, []⟩, hos, hsh, (Input.okWide_of_okWideB (base := 0) hok).1, (Input.okWide_of_okWideB hok).2, hrow, by
    simp only [Assume.holds]
    exact ⟨by simp, by simp, fun _ => Modest.zero, by simp, by simp⟩⟩
end Go.Proofs.Ythpohjafnljfhaa
