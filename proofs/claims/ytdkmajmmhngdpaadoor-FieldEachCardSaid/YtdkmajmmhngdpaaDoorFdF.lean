import Derived.Test.YtdkmajmmhngdpaaDoorFdE
import Derived.BigQuiet
namespace Go.Proofs.YtdkmajmmhngdpaaDoor
open Go.RowKit Go.Maps

/-! ## Does some text say it? Line -/
def hasColon (l : List UInt8) : Bool := decide (0 ≤ Lib.indexByte l 58)
def sayF (f : Int × List UInt8 × List UInt8) : Bool :=
  if f.1 = 1 then decide (f.2.1 = [] ∧ f.2.2 = []) else if f.1 = 2 then decide (f.2.1 = []) else decide (f.2.1 ≠ [] ∧ hasColon f.2.1 = false ∧ (kindK f.2.1 : Int) = f.1)
theorem isE {l : List UInt8} (h : l ≠ []) : l.isEmpty = false := by
  cases l with
  | nil => exact absurd rfl h
  | cons x r => rfl
def SayF (f : Int × List UInt8 × List UInt8) (w : World) (e : Ending) (w' : World) : Prop := e = .returned (.bool (sayF f)) ∧ Below w.heap.size w w'
set_option maxRecDepth 100000 in
theorem sayF_any (k : Nat) (f : Int × List UInt8 × List UInt8) (l : List UInt8) (w : World) (hk : Has w k 81 (undCells f l)) (h1 : f.2.1.length ≤ 1000000) (hN : NamesT w) :
    Calls Tryd.prog 58 #[.pointer (some ⟨k, 0, none⟩)] w (SayF f w) := by
  obtain ⟨ki, nm, vl⟩ := f
  simp only at h1
  have c0 := hk.cell 0
  have c1 := hk.cell 1
  have c2 := hk.cell 2
  simp [undCells] at c0 c1 c2
  by_cases k1 : ki = 1
  · subst k1
    have hs : sayF (1, nm, vl) = decide (nm = [] ∧ vl = []) := rfl
    have hs' := Lib.hid hs
    clear hk hN hs
    by_cases e1 : nm = []
    · subst e1
      by_cases e2 : vl = []
      · subst e2
        go_enter Tryd.func58, Tryd.ntmps58
        go_wp2
        go_ret
        exact ⟨by rw [hs'.out]; rfl, Below.refl _ _⟩
      · have hie := isE e2
        go_enter Tryd.func58, Tryd.ntmps58
        go_wp2
        go_ret
        exact ⟨by rw [hs'.out, decide_eq_false (fun h => e2 h.2)]; rfl, Below.refl _ _⟩
    · have hie := isE e1
      go_enter Tryd.func58, Tryd.ntmps58
      go_wp2
      go_ret
      exact ⟨by rw [hs'.out, decide_eq_false (fun h => e1 h.1)]; rfl, Below.refl _ _⟩
  by_cases k2 : ki = 2
  · subst k2
    have hs : sayF (2, nm, vl) = decide (nm = []) := rfl
    have hs' := Lib.hid hs
    clear hk hN hs
    by_cases e1 : nm = []
    · subst e1
      go_enter Tryd.func58, Tryd.ntmps58
      go_wp2
      go_ret
      exact ⟨by rw [hs'.out]; rfl, Below.refl _ _⟩
    · have hie := isE e1
      go_enter Tryd.func58, Tryd.ntmps58
      go_wp2
      go_ret
      exact ⟨by rw [hs'.out, decide_eq_false e1]; rfl, Below.refl _ _⟩
  · have hs : sayF (ki, nm, vl) = decide (nm ≠ [] ∧ hasColon nm = false ∧ (kindK nm : Int) = ki) := by unfold sayF; rw [if_neg k1, if_neg k2]
    have hs' := Lib.hid hs
    have hkl := hk.lt
    have hall := Lib.hid (fun (W : World) (h : Below w.heap.size w W) => show W.cell? ⟨k, 0, none⟩ = some (.int .i64 ki) ∧ W.cell? ⟨k, 1, none⟩ = some (.string ⟨nm.toArray⟩) from ⟨(hk.below h hk.lt).cell 0, (hk.below h hk.lt).cell 1⟩)
    have hb0 := Lib.hid (Below.refl w.heap.size w).drew
    have hct := Lib.hid (fun W => Tryd.strings_Contains_one ⟨nm.toArray⟩ 58 W)
    rw [show (ByteArray.mk nm.toArray).data.toList = nm from by simp] at hct
    have hko := Lib.hid (fun W (h : Below w.heap.size w W) => kindOf_any ⟨nm.toArray⟩ W (by show nm.toArray.size ≤ _; simp [maxLen]; omega) (hN.below h))
    rw [show (ByteArray.mk nm.toArray).data.toList = nm from by simp] at hko
    clear hk hN hs
    by_cases e1 : nm = []
    · subst e1
      go_enter Tryd.func58, Tryd.ntmps58
      go_wp2
      go_quiet (fail)
      go_wp2
      go_ret
      exact ⟨by rw [hs'.out, decide_eq_false (fun h => h.1 rfl)]; rfl, below_draws (Below.refl _ _) _⟩
    · have hie := isE e1
      cases hc : hasColon nm with
      | true =>
        rw [show decide (0 ≤ Lib.indexByte nm 58) = true from hc] at hct
        go_enter Tryd.func58, Tryd.ntmps58
        go_wp2
        go_quiet ((go_at_call 90; exact Calls.quiet_of_same (hct.out _)))
        go_wp2
        go_ret
        exact ⟨by rw [hs'.out, decide_eq_false (fun h => by rw [hc] at h; cases h.2.1)]; rfl, below_draws (Below.refl _ _) _⟩
      | false =>
        rw [show decide (0 ≤ Lib.indexByte nm 58) = false from hc] at hct
        go_enter Tryd.func58, Tryd.ntmps58
        go_wp2
        go_region_held3 (fun W => W.cell? ⟨k, 0, none⟩ = some (.int .i64 ki) ∧ W.cell? ⟨k, 1, none⟩ = some (.string ⟨nm.toArray⟩))
          (first
          | with_reducible exact hall.out _ hb2'.out
          | with_reducible exact hall.out _ hb0.out
          | fail)
          (first
          | (go_at_call 90; (with_reducible refine Calls.mono (hct.out _) ?_); rintro e w1 ⟨rfl, rfl⟩)
          | (go_at_call 88; (with_reducible refine Calls.mono (hko.out _ hb0.out) ?_); rintro e w2 ⟨rfl, hb2⟩; have hb2' := Lib.hid (hb0.out.trans hb2); clear hb2)
          | fail)
        go_wp2
        go_ret
        refine ⟨?_, hb2'.out⟩
        rw [hs'.out]
        show Ending.returned (.bool ((kindK nm : Int) == ki)) = Ending.returned (.bool (decide (nm ≠ [] ∧ hasColon nm = false ∧ (kindK nm : Int) = ki)))
        have : ((kindK nm : Int) == ki) = decide (nm ≠ [] ∧ hasColon nm = false ∧ (kindK nm : Int) = ki) := by
          rw [hc]
          by_cases h : (kindK nm : Int) = ki <;> simp [h, e1]
        rw [this]
end Go.Proofs.YtdkmajmmhngdpaaDoor
