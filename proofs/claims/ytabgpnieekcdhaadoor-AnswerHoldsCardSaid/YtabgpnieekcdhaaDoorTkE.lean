import Derived.Test.YtabgpnieekcdhaaDoorBs
import Derived.Test.YtabgpnieekcdhaaDoorTkD
namespace Go.Proofs.YtabgpnieekcdhaaDoor
open Go.RowKit
attribute [local go_sem] Oper.semAt_some class_at0 class_at1 class_at2

/-! ## The faces: Token, Value, Trim -/
set_option maxRecDepth 100000 in
theorem cloneS_any (s : ByteArray) (w : World) (hs : s.size ≤ 281474976710656) : Calls Tryd.prog 79 #[.string s] w fun e w' => e = .returned (.string s) ∧ Below w.heap.size w w' := by
  have hc := Lib.hid (Tryd.stringslite_Clone s w hs)
  go_enter Tryd.func79, Tryd.ntmps79
  go_wp2_with (go_at_call 84; (with_reducible refine Calls.mono hc.out ?_); rintro e w2 ⟨rfl, hb2⟩)
  go_ret
  exact ⟨rfl, hb2⟩
set_option maxRecDepth 100000 in
theorem trim_any (s : List UInt8) (w : World) (hs : s.length ≤ 1000000) : Calls Tryd.prog 74 #[.string ⟨s.toArray⟩] w (StrR (trimL s) w) := by
  unfold StrR
  have hl := trimL_len s
  have ht := Lib.hid (trimmed_any s w hs)
  have hc := Lib.hid (fun W => cloneS_any ⟨(trimL s).toArray⟩ W (by show (trimL s).toArray.size ≤ _; simp; omega))
  go_enter Tryd.func74, Tryd.ntmps74
  go_wp2_with (first | (go_at_call 77; (with_reducible refine Calls.mono ht.out ?_); rintro e w1 ⟨rfl, hb1⟩) | (go_at_call 79; (with_reducible refine Calls.mono (hc.out _) ?_); rintro e w2 ⟨rfl, hb2⟩))
  go_ret
  exact ⟨rfl, below_on hb1 hb2⟩
set_option maxRecDepth 100000 in
theorem token_any (s : List UInt8) (w : World) (hs : s.length ≤ 1000000) : Calls Tryd.prog 66 #[.string ⟨s.toArray⟩] w (BoolR (tokenL s) w) := by
  unfold BoolR
  cases s with
  | nil =>
    go_enter Tryd.func66, Tryd.ntmps66
    go_wp2
    go_ret
    exact ⟨rfl, Below.refl _ _⟩
  | cons b r =>
    have ht : tokenL (b :: r) = (b :: r).all tokB := by unfold tokenL; simp
    rw [ht]
    have ha := Lib.hid (fun W => all_tok (b :: r) W hs)
    have hne : (⟨(b :: r).toArray⟩ : ByteArray).toList = b :: r := by simp
    generalize hz : b :: r = s at *
    have hne2 : s.isEmpty = false := by rw [← hz]; rfl
    clear hz ht
    go_enter Tryd.func66, Tryd.ntmps66
    go_wp2_with (first | (go_at_call 76; (with_reducible refine Calls.mono (classes_any _) ?_); rintro e w1 ⟨rfl, hb1⟩) | (go_at_call 75; (with_reducible refine Calls.mono (ha.out _) ?_); rintro e w2 ⟨rfl, rfl⟩))
    go_ret
    exact ⟨rfl, hb1⟩
set_option maxRecDepth 100000 in
theorem value_any (s : List UInt8) (w : World) (hs : s.length ≤ 1000000) : Calls Tryd.prog 67 #[.string ⟨s.toArray⟩] w (BoolR (valueL s) w) := by
  unfold BoolR
  have ha := Lib.hid (fun W => all_val s W hs)
  have ht := Lib.hid (fun W => trimmed_any s W hs)
  have hv : valueL s = (s.all valB && trimL s == s) := rfl
  rw [hv]
  clear hv
  cases hc : s.all valB with
  | true =>
    rw [hc] at ha
    generalize trimL s = t at *
    clear hc
    go_enter Tryd.func67, Tryd.ntmps67
    go_wp2_with (first | (go_at_call 76; (with_reducible refine Calls.mono (classes_any _) ?_); rintro e w1 ⟨rfl, hb1⟩) | (go_at_call 75; (with_reducible refine Calls.mono (ha.out _) ?_); rintro e w2 ⟨rfl, rfl⟩) | (go_at_call 77; (with_reducible refine Calls.mono (ht.out _) ?_); rintro e w3 ⟨rfl, hb3⟩))
    go_ret
    exact ⟨rfl, below_on hb1 hb3⟩
  | false =>
    rw [hc] at ha
    clear hc
    go_enter Tryd.func67, Tryd.ntmps67
    go_wp2_with (first | (go_at_call 76; (with_reducible refine Calls.mono (classes_any _) ?_); rintro e w1 ⟨rfl, hb1⟩) | (go_at_call 75; (with_reducible refine Calls.mono (ha.out _) ?_); rintro e w2 ⟨rfl, rfl⟩))
    go_ret
    exact ⟨rfl, hb1⟩
end Go.Proofs.YtabgpnieekcdhaaDoor
