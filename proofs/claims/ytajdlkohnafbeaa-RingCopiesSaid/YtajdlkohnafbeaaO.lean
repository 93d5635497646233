import Derived.Test.YtajdlkohnafbeaaK
import Derived.Test.YtajdlkohnafbeaaKa
import Derived.ProofKit
import Derived.OpenShut
import Derived.Deep.Slices
import Derived.Deep.Fields
import Derived.Lib.SmallJoins
import Derived.Deep.DeepHandedRow
namespace Go.Proofs.Ytajdlkohnafbeaa
open Go.ChangeShapes Go.WideShapes Go.ChangeAt Go.RowKit Go.Deep

/-! ## Arguments, opened -/
theorem cells64 : Try.prog.cellsOf 3 = 1 := by kernel_rfl
section
variable {H : Type} {enc : TypeId × Value → H}
/-- A slice of numbers, opened. -/
theorem ints_of {W : World} {held : Bool} {fuel : Nat} {v : Value} {A : Option Addr} {len cap : Nat} {y : DataW H × List MemPlace} (hv : v = .slice A len cap) (h : DataW.trod enc Try.prog W 0 (fun _ => true) held fuel 29 [v] = some y) :
    ∃ l : List Int, l.length = len ∧ Ints W (· < W.heap.size) A l := by
  subst hv
  rcases open_ints Try.underlying29 Try.underlying3 cells64 h with ⟨hcs, _⟩ | ⟨a, n, c, zs, hcs, _, hl, hm, hz, hx, hcell, hwz⟩
  · injection hcs with hcs
    injection hcs with h1 h2 h3
    subst h1; subst h2
    exact ⟨[], rfl, fun h => absurd h (by simp)⟩
  · injection hcs with hcs
    injection hcs with h1 h2 h3
    subst h1; subst h2
    simp only [if_true] at hz
    have hlen : (zs.take len).length = len := by simp; omega
    refine ⟨zs.take len, hlen, fun h0 => ?_⟩
    rw [hlen] at h0
    have hc0 := hcell 0 (by omega)
    have hs : a.spot = none := by simpa [Addr.add] using World.cell?_spot hc0
    have hbl := World.block_lt_of_cell? W _ hc0
    obtain ⟨b, o, spot⟩ := a
    subst hs
    refine ⟨b, o, rfl, by simpa [Addr.add] using hbl, fun j z hj => ?_⟩
    have hjl : j < len := by have := (List.getElem?_eq_some_iff.1 hj).1; omega
    have := hcell j (by omega)
    rw [show (⟨b, o, none⟩ : Addr).add j = ⟨b, o + j, none⟩ by unfold Addr.add; split <;> simp_all] at this
    rw [this, List.getD_eq_getElem?_getD]
    rw [List.getElem?_take, if_pos hjl] at hj
    rw [hj]
    rfl
end
end Go.Proofs.Ytajdlkohnafbeaa
