import Derived.Test.YtabgpnieekcdhaaDoorRows
import Derived.Test.YtabgpnieekcdhaaDoorShelf
import Derived.Lib.Hide
import Derived.WalkKit
import Derived.WalkSpells
import Derived.WalkLawsBesides
namespace Go.Proofs.YtabgpnieekcdhaaDoor
open Go.RowKit

/-! What the calls of layer 1 answer: the value, the error's number. -/
def addR (a b : Int) : Int × Int := if a + b < 18446744073709551616 then (a + b, 0) else (0, 111)
def subR (a b : Int) : Int × Int := if b ≤ a then (a - b, 0) else (0, 112)
def mulR (a b : Int) : Int × Int := if a * b < 18446744073709551616 then (a * b, 0) else (0, 111)
def nextR (a b : Int) : Int × Int := if a < b then (a + 1, 0) else (0, 111)
def clampR (n l m : Int) : Int × Int := if l ≤ m then (min (max n l) m, 0) else (0, 2)

def Is64 (a : Int) : Prop := 0 ≤ a ∧ a < 18446744073709551616

theorem addR_64 {a b : Int} (ha : Is64 a) (hb : Is64 b) : Is64 (addR a b).1 := by
  unfold addR Is64 at *; split <;> constructor <;> simp <;> omega

def Two (r : Int × Int) : Ending := .returned (.tuple #[.int .u64 r.1, .int .i64 r.2])
theorem two_of {r : Int × Int} {x y : Int} (h : r = (x, y)) : Ending.returned (.tuple #[.int .u64 x, .int .i64 y]) = Two r := by rw [h]; rfl

section
variable (a b c : Int) (w : World)
set_option maxHeartbeats 400000

theorem mulR_lo (h : a * b < 18446744073709551616) : mulR a b = (a * b, 0) := if_pos h
theorem mulR_hi (h : 18446744073709551616 ≤ a * b) : mulR a b = (0, 111) := if_neg (by omega)
theorem quot_lt (ha : 0 < a) (h : 18446744073709551615 / a < b) : 18446744073709551616 ≤ a * b := by
  have := (Int.ediv_lt_iff_lt_mul ha).1 h
  rw [Int.mul_comm] at this
  omega
theorem quot_le (ha : 0 < a) (h : b ≤ 18446744073709551615 / a) : a * b < 18446744073709551616 := by
  have := (Int.le_ediv_iff_mul_le ha).1 h
  rw [Int.mul_comm] at this
  omega
theorem wrap_mul (h0 : 0 ≤ a * b) (h : a * b < 18446744073709551616) : IntKind.u64.wrap (a * b) = a * b := by rw [IntKind.wrap_u64]; omega
/-- The product's upper half is no nought: whatever the halves are. -/
def Upper (e : Ending) : Prop := ∃ h l : Int, e = .returned (.tuple #[.int .u64 h, .int .u64 l]) ∧ (h != 0) = true
end
end Go.Proofs.YtabgpnieekcdhaaDoor
