import Derived.Test.YtbmemkbfignlaaaGreatDoorPk4
import Derived.Test.YtbmemkbfignlaaaGreatDoorPk7
import Derived.Defers
import Derived.Recover
import Derived.Laws.Pointers
namespace Go.Proofs.YtbmemkbfignlaaaGreatDoor
open Go.RowKit
attribute [local go_sem] Oper.semAt_some

/-! ## The tables -/
def MaxT (W : World) : Prop := ∃ m, Has W 0 3 #[.int .i64 m]
theorem MaxT.below {W W' : World} (h : MaxT W) (hb : Below W.heap.size W W') : MaxT W' := by
  obtain ⟨m, hm⟩ := h
  exact ⟨m, hm.below hb hm.lt⟩
/-- What the program's own tables hold. -/
def TabT (W : World) : Prop := Tab W ∧ MaxT W
theorem TabT.below {W W' : World} (h : TabT W) (hb : Below W.heap.size W W') : TabT W' := ⟨h.1.below hb, h.2.below hb⟩
/-! ## What is wrong is given up by -/
def gaveV (n : Int) : Value := .iface 136 (.agg #[.int .i64 n])
def gaveD (n : Int) : List PanicEntry := [{ v := gaveV n, recovered := false }]
abbrev gaveE (n : Int) : Ending := .panicked (gaveD n)
theorem must_yes (n : Int) (w : World) : Calls Tryz.prog 133 #[.bool true, .int .i64 n] w fun e w' => e = .returned (.tuple #[]) ∧ w' = w := by
  go_enter Tryz.func133, Tryz.ntmps133
  go_wp2
  go_end0
  exact ⟨rfl, rfl⟩
theorem must_no (n : Int) (w : World) : Calls Tryz.prog 133 #[.bool false, .int .i64 n] w fun e w' => e = gaveE n ∧ w' = w := by
  go_enter Tryz.func133, Tryz.ntmps133
  go_wp2
  exact ⟨rfl, rfl, rfl⟩
/-! ## What is taken of a text -/
def RdT (W : World) (k : Nat) (t : List UInt8) (p : Bool) : Prop := Has W k 186 #[.string ⟨t.toArray⟩, .bool p]
theorem RdT.lt {W : World} {k : Nat} {t : List UInt8} {p : Bool} (h : RdT W k t p) : k < W.heap.size := Has.lt h
theorem RdT.below {W W' : World} {k : Nat} {t : List UInt8} {p : Bool} (h : RdT W k t p) (hb : Below W.heap.size W W') : RdT W' k t p := Has.below h hb h.lt
theorem RdT.take {W : World} {k : Nat} {t : List UInt8} {p : Bool} (h : RdT W k t p) (r : List UInt8) : RdT (W.setCell ⟨k, 0, none⟩ (.string ⟨r.toArray⟩)) k r p := by
  have := Has.put h 0 (.string ⟨r.toArray⟩)
  simpa [RdT] using this
theorem RdT.facts {W : World} {k : Nat} {t : List UInt8} {p : Bool} (h : RdT W k t p) : W.cell? ⟨k, 0, none⟩ = some (.string ⟨t.toArray⟩) ∧ W.cell? ⟨k, 1, none⟩ = some (.bool p) ∧ W.frozen? ⟨k, 0, none⟩ = false ∧ W.frozen? ⟨k, 1, none⟩ = false := ⟨Has.cell h 0, Has.cell h 1, Has.free h 0, Has.free h 1⟩
theorem endedT_yes (k : Nat) (p : Bool) (w : World) (hk : RdT w k [] p) : Calls Tryz.prog 165 #[.pointer (some ⟨k, 0, none⟩)] w fun e w' => e = .returned (.bool true) ∧ w' = w := by
  obtain ⟨c0, -, f0, -⟩ := hk.facts
  clear hk
  go_enter Tryz.func165, Tryz.ntmps165
  go_wp2
  go_ret
  exact ⟨rfl, rfl⟩
theorem endedT_no (k : Nat) (c : UInt8) (r : List UInt8) (p : Bool) (w : World) (hk : RdT w k (c :: r) p) : Calls Tryz.prog 165 #[.pointer (some ⟨k, 0, none⟩)] w fun e w' => e = .returned (.bool false) ∧ w' = w := by
  obtain ⟨c0, -, f0, -⟩ := hk.facts
  have hne : (c :: r).isEmpty = false := rfl
  generalize c :: r = y at *
  clear hk
  go_enter Tryz.func165, Tryz.ntmps165
  go_wp2
  go_ret
  exact ⟨rfl, rfl⟩
/-- So many bytes, or all. -/
theorem takeT_any (m : Nat) (hm : m ≤ 2) (k : Nat) (t : List UInt8) (p : Bool) (w : World) (ht : t.length ≤ 1000000) (hk : RdT w k t p) : Calls Tryz.prog 180 #[.pointer (some ⟨k, 0, none⟩), .int .i64 (m : Int)] w fun e w' =>
    e = .returned (.string ⟨(t.take m).toArray⟩) ∧ w' = w.setCell ⟨k, 0, none⟩ (.string ⟨(t.drop m).toArray⟩) := by
  obtain ⟨c0, -, f0, -⟩ := hk.facts
  clear hk
  rcases Nat.lt_or_ge t.length m with h | h
  · rw [List.take_of_length_le (by omega), List.drop_of_length_le (by omega)]
    have hI : ¬ (m : Int) ≤ (t.length : Int) := by omega
    have hI2 : (t.length : Int) < (m : Int) := by omega
    have x1 : (⟨t.toArray⟩ : ByteArray).extract 0 t.length = ⟨t.toArray⟩ := by rw [exE1, List.drop_zero, Nat.sub_zero, List.take_length]
    have x2 : (⟨t.toArray⟩ : ByteArray).extract t.length t.length = ⟨#[]⟩ := by rw [exE1, List.drop_length]; simp
    go_enter Tryz.func180, Tryz.ntmps180
    go_wp2
    go_ret
    exact ⟨rfl, rfl⟩
  · have hI : (m : Int) ≤ (t.length : Int) := by omega
    have hI0 : 0 ≤ (m : Int) := by omega
    have x1 : (⟨t.toArray⟩ : ByteArray).extract 0 m = ⟨(t.take m).toArray⟩ := by rw [exE1, List.drop_zero, Nat.sub_zero]
    have x2 : (⟨t.toArray⟩ : ByteArray).extract m t.length = ⟨(t.drop m).toArray⟩ := by rw [exE1, List.take_of_length_le (by simp)]
    go_enter Tryz.func180, Tryz.ntmps180
    go_wp2
    go_ret
    exact ⟨rfl, rfl⟩
end Go.Proofs.YtbmemkbfignlaaaGreatDoor
