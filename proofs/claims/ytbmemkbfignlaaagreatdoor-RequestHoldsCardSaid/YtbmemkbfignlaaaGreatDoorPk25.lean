import Derived.Test.YtbmemkbfignlaaaGreatDoorPk2
import Derived.Test.YtbmemkbfignlaaaGreatDoorPk24
import Derived.Lib.AppendStr
import Derived.Lib.BufferWrite
import Derived.Deep.RegionLaw
import Derived.ScopeJumps
import Derived.WalkKit
namespace Go.Proofs.YtbmemkbfignlaaaGreatDoor
open Go.RowKit

/-! ## Bytes of the call's own, or nil -/
section
variable {W W' : World} {n0 : Nat} {v : Value} {l : List UInt8}
end
section
variable {w : World} {ops : Array Oper} {rest : List Oper} {o : Oper} {a : Act} {Q : Exit → Act → World → Prop} {n0 : Nat} {v : Value} {l : List UInt8}
end
end Go.Proofs.YtbmemkbfignlaaaGreatDoor

namespace Go.Proofs.YtbmemkbfignlaaaGreatDoor
open Go.RowKit
attribute [local go_sem] Oper.semAt_some class_at0 class_at1 class_at2

/-! ## What is taken of a text -/
/-- A reader: what is left of a text, and whether it stands in a quoted text. -/
def RdAt (W : World) (k : Nat) (t : List UInt8) (q : Bool) : Prop := Has W k 257 #[.string ⟨t.toArray⟩, .bool q]
theorem RdAt.lt {W : World} {k : Nat} {t : List UInt8} {q : Bool} (h : RdAt W k t q) : k < W.heap.size := Has.lt h
theorem RdAt.below {W W' : World} {k : Nat} {t : List UInt8} {q : Bool} (h : RdAt W k t q) (hb : Below W.heap.size W W') : RdAt W' k t q := Has.below h hb h.lt
theorem RdAt.take {W : World} {k : Nat} {t : List UInt8} {q : Bool} (h : RdAt W k t q) (r : List UInt8) : RdAt (W.setCell ⟨k, 0, none⟩ (.string ⟨r.toArray⟩)) k r q := by
  have := Has.put h 0 (.string ⟨r.toArray⟩)
  simpa [RdAt] using this
theorem RdAt.in {W : World} {k : Nat} {t : List UInt8} {q : Bool} (h : RdAt W k t q) (p : Bool) : RdAt (W.setCell ⟨k, 1, none⟩ (.bool p)) k t p := by
  have := Has.put h 1 (.bool p)
  simpa [RdAt] using this
theorem RdAt.facts {W : World} {k : Nat} {t : List UInt8} {q : Bool} (h : RdAt W k t q) : W.cell? ⟨k, 0, none⟩ = some (.string ⟨t.toArray⟩) ∧ W.cell? ⟨k, 1, none⟩ = some (.bool q) ∧ W.frozen? ⟨k, 0, none⟩ = false ∧ W.frozen? ⟨k, 1, none⟩ = false := ⟨Has.cell h 0, Has.cell h 1, Has.free h 0, Has.free h 1⟩
theorem cut1 (b : UInt8) (r : List UInt8) : (⟨(b :: r).toArray⟩ : ByteArray).extract 1 (b :: r).length = ⟨r.toArray⟩ := cut1_str b r
theorem takes_yes (k : Nat) (c : UInt8) (r : List UInt8) (q : Bool) (w : World) (hk : RdAt w k (c :: r) q) : Calls Tryz.prog 234 #[.pointer (some ⟨k, 0, none⟩), byV c] w fun e w' => e = .returned (.bool true) ∧ w' = w.setCell ⟨k, 0, none⟩ (.string ⟨r.toArray⟩) := by
  obtain ⟨c0, -, f0, -⟩ := hk.facts
  have hx := cut1 c r
  have h0 : (0 : Int) < ((c :: r).length : Int) := by simp
  have hlt : 0 < (c :: r).length := by simp
  have hb : (((⟨(c :: r).toArray⟩ : ByteArray)[0]'hlt).toNat : Int) = (c.toNat : Int) := rfl
  have hne : (c :: r).isEmpty = false := rfl
  generalize c :: r = y at *
  clear hk
  unfold byV
  go_enter Tryz.func234, Tryz.ntmps234
  go_wp2
  go_ret
  exact ⟨rfl, rfl⟩
theorem takes_no (k : Nat) (c : UInt8) (t : List UInt8) (q : Bool) (w : World) (hk : RdAt w k t q) (ht : t.head? ≠ some c) : Calls Tryz.prog 234 #[.pointer (some ⟨k, 0, none⟩), byV c] w fun e w' => e = .returned (.bool false) ∧ w' = w := by
  obtain ⟨c0, -, f0, -⟩ := hk.facts
  unfold byV
  clear hk
  cases t with
  | nil =>
    go_enter Tryz.func234, Tryz.ntmps234
    go_wp2
    go_ret
    exact ⟨rfl, rfl⟩
  | cons b r =>
    have h0 : (0 : Int) < ((b :: r).length : Int) := by simp
    have hlt : 0 < (b :: r).length := by simp
    have hb : ((((⟨(b :: r).toArray⟩ : ByteArray)[0]'hlt).toNat : Int) == (c.toNat : Int)) = false := by
      rw [show (⟨(b :: r).toArray⟩ : ByteArray)[0]'hlt = b from rfl, beq_eq_false_iff_ne]
      intro e
      exact ht (by rw [List.head?_cons, UInt8.toNat_inj.1 (show b.toNat = c.toNat by omega)])
    have hne : (b :: r).isEmpty = false := rfl
    generalize b :: r = y at *
    go_enter Tryz.func234, Tryz.ntmps234
    go_wp2
    go_ret
    exact ⟨rfl, rfl⟩
theorem next_yes (k : Nat) (c : UInt8) (r : List UInt8) (q : Bool) (w : World) (hk : RdAt w k (c :: r) q) : Calls Tryz.prog 235 #[.pointer (some ⟨k, 0, none⟩)] w fun e w' => e = .returned (.tuple #[.int .u8 (c.toNat : Int), .bool true]) ∧ w' = w.setCell ⟨k, 0, none⟩ (.string ⟨r.toArray⟩) := by
  obtain ⟨c0, -, f0, -⟩ := hk.facts
  have hx := cut1 c r
  have h0 : (0 : Int) < ((c :: r).length : Int) := by simp
  have hlt : 0 < (c :: r).length := by simp
  have hb : (((⟨(c :: r).toArray⟩ : ByteArray)[0]'hlt).toNat : Int) = (c.toNat : Int) := rfl
  have hne : (c :: r).isEmpty = false := rfl
  generalize c :: r = y at *
  clear hk
  go_enter Tryz.func235, Tryz.ntmps235
  go_wp2
  go_ret2
  exact ⟨rfl, rfl⟩
theorem next_no (k : Nat) (q : Bool) (w : World) (hk : RdAt w k [] q) : Calls Tryz.prog 235 #[.pointer (some ⟨k, 0, none⟩)] w fun e w' => e = .returned (.tuple #[.int .u8 0, .bool false]) ∧ w' = w := by
  obtain ⟨c0, -, f0, -⟩ := hk.facts
  clear hk
  go_enter Tryz.func235, Tryz.ntmps235
  go_wp2
  go_ret2
  exact ⟨rfl, rfl⟩
end Go.Proofs.YtbmemkbfignlaaaGreatDoor

namespace Go.Proofs.YtbmemkbfignlaaaGreatDoor
open Go.RowKit

/-! ## A jump on to a label that stands further on -/
theorem wp_scope_on {P : Program} {a : Act} {w : World} {Q : Exit → Act → World → Prop} {c rest : Code} (l : Nat) (hf : findLabel c l = some rest)
    (first : c.wp P (Exit.jump l (fun a w => rest.wp P (Exit.noGoto Q) a w) Q) a w) : (Code.scope c).wp P Q a w := by
  refine wp_scope_jumps l (fun a w => rest.wp P (Exit.noGoto Q) a w) (fun _ _ => 0) hf first (fun a w h => wp_mono h ?_)
  intro e a w hq
  cases e <;> first | exact hq.elim | exact hq
theorem jump_ret {l : Nat} {J : Act → World → Prop} {Q : Exit → Act → World → Prop} {a : Act} {w : World} : Exit.jump l J Q .ret a w = Q .ret a w := rfl
end Go.Proofs.YtbmemkbfignlaaaGreatDoor
