import Derived.Test.YtajdlkohnafbeaaI
import Derived.Test.YtajdlkohnafbeaaM
namespace Go.Proofs.Ytajdlkohnafbeaa
open Go.RowKit

/-! ## Plays: too many calls, or no cap -/
set_option maxRecDepth 100000 in
theorem plays_works (most : Int) (first n : Nat) (A : Option Addr) (c : Nat) (w : World) (hno : 50 < n ∨ most < 1 ∨ 4096 < most) :
    Calls Try.prog 3 #[.int .i64 most, .int .u64 (first : Int), .slice A n c] w fun e w' => e = .returned (.bool true) ∧ Below w.heap.size w w' := by
  by_cases h1 : 50 < n
  · have hwk := Lib.hid (works_any w)
    have d1 : decide ((50 : Int) < (n : Int)) = true := decide_eq_true (by omega)
    clear hno
    go_enter Try.func3, Try.ntmps3
    go_wp2_with (go_at_call 7; refine hwk.out.mono ?_; rintro e w' ⟨rfl, hb⟩)
    go_ret
    exact ⟨rfl, hb⟩
  · have d1 : decide ((50 : Int) < (n : Int)) = false := decide_eq_false (by omega)
    have hno2 : most < 1 ∨ 4096 < most := by omega
    have hnew := Lib.hid (new_no most first w hno2)
    have href := Lib.hid (fun w => refNew_no most first w hno2)
    have hz : ((2 : Int) != 2) = false := by decide
    have hz2 : ((2 : Int) == 0) = false := by decide
    have hz3 : ((2 : Int) != 0) = true := by decide
    clear hno hno2
    unfold rv at href
    go_enter Try.func3, Try.ntmps3
    go_wp2_with (first | (go_at_call 8; refine hnew.out.mono ?_; rintro e w1 ⟨rfl, rfl⟩) | (go_at_call 9; refine (href.out _).mono ?_; rintro e w2 ⟨rfl, hb2⟩) | (go_at_call 10; refine (num_any _ _).mono ?_; rintro e w' ⟨rfl, rfl⟩) | (go_at_call 7; refine (works_any _).mono ?_; rintro e w5 ⟨rfl, hb⟩))
    go_ret
    exact ⟨rfl, (hb2.alloc hb2.size _).trans (hb.mono (by have := hb2.size; simp; omega))⟩
end Go.Proofs.Ytajdlkohnafbeaa
