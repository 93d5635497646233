import Derived.Test.YtajdlkohnafbeaaI
namespace Go.Proofs.Ytajdlkohnafbeaa
open Go.RowKit

set_option maxRecDepth 100000 in
theorem holds_works (most : Int) (first n : Nat) (A : Option Addr) (c : Nat) (w : World) (hno : 80 < n ∨ most < 1 ∨ 4096 < most) :
    Calls Try.prog 6 #[.int .i64 most, .int .u64 (first : Int), .slice A n c] w fun e w' => e = .returned (.bool true) ∧ Below w.heap.size w w' := by
  have hwk := Lib.hid (works_any w)
  by_cases h1 : 80 < n
  · have d1 : decide ((80 : Int) < (n : Int)) = true := decide_eq_true (by omega)
    clear hno
    go_enter Try.func6, Try.ntmps6
    go_wp2_with (go_at_call 7; refine hwk.out.mono ?_; rintro e w' ⟨rfl, hb⟩)
    go_ret
    exact ⟨rfl, hb⟩
  · have d1 : decide ((80 : Int) < (n : Int)) = false := decide_eq_false (by omega)
    by_cases h2 : most < 1
    · clear hno
      go_enter Try.func6, Try.ntmps6
      go_wp2_with (go_at_call 7; refine hwk.out.mono ?_; rintro e w' ⟨rfl, hb⟩)
      go_ret
      exact ⟨rfl, hb⟩
    · have h3 : 4096 < most := by omega
      have h4 : 1 ≤ most := by omega
      clear hno
      go_enter Try.func6, Try.ntmps6
      go_wp2_with (go_at_call 7; refine hwk.out.mono ?_; rintro e w' ⟨rfl, hb⟩)
      go_ret
      exact ⟨rfl, hb⟩
end Go.Proofs.Ytajdlkohnafbeaa
