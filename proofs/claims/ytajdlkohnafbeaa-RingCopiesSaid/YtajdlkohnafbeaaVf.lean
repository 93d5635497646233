import Derived.Test.YtajdlkohnafbeaaVc
namespace Go.Proofs.Ytajdlkohnafbeaa
open Go.RowKit

/-! ## Copies: too many calls, or no cap -/
/-- Two calls, as an array's cells. -/
def pairCells (a b : Deed) : Array Value := #[.int .i64 a.what, .int .i64 a.val, .int .u64 (a.far : Int), .int .i64 b.what, .int .i64 b.val, .int .u64 (b.far : Int)]
theorem below_alloc2 {w w5 : World} {o : Obj} (hb : Below (w.alloc o).heap.size (w.alloc o) w5) : Below w.heap.size w w5 := ((Below.refl w.heap.size w).alloc (Nat.le_refl _) o).trans (hb.mono (by simp))
set_option maxRecDepth 100000 in
theorem copies_works (most : Int) (first n : Nat) (A : Option Addr) (c : Nat) (a b : Deed) (w : World) (hno : 30 < n ∨ most < 1 ∨ 4096 < most) :
    Calls Try.prog 4 #[.int .i64 most, .int .u64 (first : Int), .slice A n c, .agg (pairCells a b)] w fun e w' => e = .returned (.bool true) ∧ Below w.heap.size w w' := by
  unfold pairCells
  by_cases h1 : 30 < n
  · have d1 : decide ((30 : Int) < (n : Int)) = true := decide_eq_true (by omega)
    clear hno
    go_enter Try.func4, Try.ntmps4
    go_wp2_with (go_at_call 7; refine (works_any _).mono ?_; rintro e w' ⟨rfl, hb⟩)
    go_ret
    exact ⟨rfl, below_alloc2 hb⟩
  · have d1 : decide ((30 : Int) < (n : Int)) = false := decide_eq_false (by omega)
    have hno2 : most < 1 ∨ 4096 < most := by omega
    have hnew := Lib.hid (fun w => new_no most first w hno2)
    have href := Lib.hid (fun w => refNew_no most first w hno2)
    have hz : ((2 : Int) != 2) = false := by decide
    have hz2 : ((2 : Int) == 2) = true := by decide
    have hz3 : ((2 : Int) != 0) = true := by decide
    clear hno hno2
    unfold rv at href
    go_enter Try.func4, Try.ntmps4
    go_wp2_with (first | (go_at_call 8; refine (hnew.out _).mono ?_; rintro e w1 ⟨rfl, rfl⟩) | (go_at_call 9; refine (href.out _).mono ?_; rintro e w2 ⟨rfl, hb2⟩) | (go_at_call 10; refine (num_any _ _).mono ?_; rintro e w' ⟨rfl, rfl⟩) | (go_at_call 7; refine (works_any _).mono ?_; rintro e w5 ⟨rfl, hb⟩))
    go_ret
    exact ⟨rfl, (below_alloc2 hb2).trans ((below_alloc2 hb).mono (below_alloc2 hb2).size)⟩
end Go.Proofs.Ytajdlkohnafbeaa
