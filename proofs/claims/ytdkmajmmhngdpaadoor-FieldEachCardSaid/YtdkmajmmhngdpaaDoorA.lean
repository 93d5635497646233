import Derived.Test.YtdkmajmmhngdpaaDoorRows
import Derived.Test.YtdkmajmmhngdpaaDoorShelf
import Derived.Lib.Hide
import Derived.WalkKit
import Derived.WalkSpells
import Derived.WalkLawsBesides
namespace Go.Proofs.YtdkmajmmhngdpaaDoor
open Go.RowKit

/-! What the calls of layer 1 answer: the value, the error's number. -/
def addR (a b : Int) : Int × Int := if a + b < 18446744073709551616 then (a + b, 0) else (0, 111)
def subR (a b : Int) : Int × Int := if b ≤ a then (a - b, 0) else (0, 112)
def mulR (a b : Int) : Int × Int := if a * b < 18446744073709551616 then (a * b, 0) else (0, 111)
def nextR (a b : Int) : Int × Int := if a < b then (a + 1, 0) else (0, 111)
def clampR (n l m : Int) : Int × Int := if l ≤ m then (min (max n l) m, 0) else (0, 2)

def Is64 (a : Int) : Prop := 0 ≤ a ∧ a < 18446744073709551616

theorem addR_64 {a b : Int} (ha : Is64 a) (hb : Is64 b) : Is64 (addR a b).1 := by
  unfold addR Is64 at *; split <;> constructor <;> simp <;> omega

def Two (r : Int × Int) : Ending := .returned (.tuple #[.int .u64 r.1, .int .i64 r.2])
theorem two_of {r : Int × Int} {x y : Int} (h : r = (x, y)) : Ending.returned (.tuple #[.int .u64 x, .int .i64 y]) = Two r := by rw [h]; rfl

section
variable (a b c : Int) (w : World)
set_option maxHeartbeats 400000

theorem refAdd_any (ha : Is64 a) (hb : Is64 b) : Calls Tryd.prog 84 #[.int .u64 a, .int .u64 b] w fun e w' => e = Two (addR a b) ∧ w = w' := by
  obtain ⟨ha0, ha⟩ := ha
  obtain ⟨hb0, hb⟩ := hb
  go_enter Tryd.func84, Tryd.ntmps84
  go_wp2
  all_goals go_ret2
  all_goals refine ⟨two_of ?_, rfl⟩
  all_goals first | exact if_pos (by omega) | exact if_neg (by omega)
theorem next_any (ha : Is64 a) (hb : Is64 b) : Calls Tryd.prog 40 #[.int .u64 a, .int .u64 b] w fun e w' => e = Two (nextR a b) ∧ w = w' := by
  obtain ⟨ha0, ha⟩ := ha
  obtain ⟨hb0, hb⟩ := hb
  go_enter Tryd.func40, Tryd.ntmps40
  go_wp2
  all_goals go_ret2
  all_goals refine ⟨two_of ?_, rfl⟩
  all_goals first | exact if_pos (by omega) | exact if_neg (by omega)
theorem sub_any (ha : Is64 a) (hb : Is64 b) : Calls Tryd.prog 38 #[.int .u64 a, .int .u64 b] w fun e w' => e = Two (subR a b) ∧ w = w' := by
  obtain ⟨ha0, ha⟩ := ha
  obtain ⟨hb0, hb⟩ := hb
  go_enter Tryd.func38, Tryd.ntmps38
  go_wp2
  all_goals go_ret2
  all_goals refine ⟨two_of ?_, rfl⟩
  all_goals first | exact if_pos (by omega) | exact if_neg (by omega)
theorem run_add64_lo (ha : Is64 a) (hb : Is64 b) (h : a + b < 18446744073709551616) :
    (callFunc 66 #[.int .u64 a, .int .u64 b, .int .u64 0]).run Tryd.prog w = .ok (.value (.tuple #[.int .u64 (a + b), .int .u64 0])) w := by
  obtain ⟨ha0, ha⟩ := ha
  obtain ⟨hb0, hb⟩ := hb
  rw [run_callFunc_extern Tryd.func66 (by kernel_rfl) (by kernel_rfl) (by kernel_rfl) (e := add64Entry) (by kernel_rfl), run_add64 a b 0 ha0 hb0 (by omega) (by omega)]
  simp only [Result.andThen]
  rw [show (a + b + 0) % 18446744073709551616 = a + b from by omega, show (a + b + 0) / 18446744073709551616 = 0 from by omega]
theorem run_add64_hi (ha : Is64 a) (hb : Is64 b) (h : 18446744073709551616 ≤ a + b) :
    (callFunc 66 #[.int .u64 a, .int .u64 b, .int .u64 0]).run Tryd.prog w = .ok (.value (.tuple #[.int .u64 (a + b - 18446744073709551616), .int .u64 1])) w := by
  obtain ⟨ha0, ha⟩ := ha
  obtain ⟨hb0, hb⟩ := hb
  rw [run_callFunc_extern Tryd.func66 (by kernel_rfl) (by kernel_rfl) (by kernel_rfl) (e := add64Entry) (by kernel_rfl), run_add64 a b 0 ha0 hb0 (by omega) (by omega)]
  simp only [Result.andThen]
  rw [show (a + b + 0) % 18446744073709551616 = a + b - 18446744073709551616 from by omega, show (a + b + 0) / 18446744073709551616 = 1 from by omega]
theorem add_any (ha : Is64 a) (hb : Is64 b) : Calls Tryd.prog 37 #[.int .u64 a, .int .u64 b] w fun e w' => e = Two (addR a b) ∧ w = w' := by
  by_cases h : a + b < 18446744073709551616
  · have hadd := run_add64_lo a b w ha hb h
    go_enter Tryd.func37, Tryd.ntmps37
    go_wp2
    go_ret2
    exact ⟨two_of (if_pos h), rfl⟩
  · have hadd := run_add64_hi a b w ha hb (by omega)
    have h' := Lib.hid h; clear h
    go_enter Tryd.func37, Tryd.ntmps37
    go_wp2
    go_ret2
    exact ⟨two_of (if_neg (by have := h'.out; omega)), rfl⟩
theorem clamp_any (ha : Is64 a) (hb : Is64 b) (hc : Is64 c) : Calls Tryd.prog 41 #[.int .u64 a, .int .u64 b, .int .u64 c] w fun e w' => e = Two (clampR a b c) ∧ w = w' := by
  obtain ⟨ha0, ha⟩ := ha
  obtain ⟨hb0, hb⟩ := hb
  obtain ⟨hc0, hc⟩ := hc
  go_enter Tryd.func41, Tryd.ntmps41
  go_wp2
  all_goals go_ret2
  all_goals refine ⟨two_of ?_, rfl⟩
  all_goals unfold clampR
  all_goals first | exact if_neg (by omega) | exact if_pos (by omega) | (refine (if_pos (by omega)).trans (Prod.ext ?_ rfl); show min (max a b) c = _; (repeat' split) <;> omega)
theorem mulR_lo (h : a * b < 18446744073709551616) : mulR a b = (a * b, 0) := if_pos h
theorem mulR_hi (h : 18446744073709551616 ≤ a * b) : mulR a b = (0, 111) := if_neg (by omega)
theorem quot_lt (ha : 0 < a) (h : 18446744073709551615 / a < b) : 18446744073709551616 ≤ a * b := by
  have := (Int.ediv_lt_iff_lt_mul ha).1 h
  rw [Int.mul_comm] at this
  omega
theorem quot_le (ha : 0 < a) (h : b ≤ 18446744073709551615 / a) : a * b < 18446744073709551616 := by
  have := (Int.le_ediv_iff_mul_le ha).1 h
  rw [Int.mul_comm] at this
  omega
theorem wrap_mul (h0 : 0 ≤ a * b) (h : a * b < 18446744073709551616) : IntKind.u64.wrap (a * b) = a * b := by rw [IntKind.wrap_u64]; omega
theorem refMul_any (ha : Is64 a) (hb : Is64 b) : Calls Tryd.prog 83 #[.int .u64 a, .int .u64 b] w fun e w' => e = Two (mulR a b) ∧ w = w' := by
  obtain ⟨ha0, ha⟩ := ha
  obtain ⟨hb0, hb⟩ := hb
  have h0 := Lib.hid (Int.mul_nonneg ha0 hb0)
  go_enter Tryd.func83, Tryd.ntmps83
  go_wp2
  all_goals go_ret2
  all_goals refine ⟨two_of ?_, rfl⟩
  · rename_i h
    subst h
    rw [mulR_lo _ _ (by omega)]; simp
  · rename_i h1 h2
    exact mulR_hi _ _ (quot_lt _ _ (by omega) h2.2)
  · rename_i h1 h2
    have h3 : a * b < 18446744073709551616 := quot_le _ _ (by omega) (h2.resolve_left (by simpa using h1))
    rw [mulR_lo _ _ h3, wrap_mul _ _ h0.out h3]
/-- The product's upper half is no nought: whatever the halves are. -/
def Upper (e : Ending) : Prop := ∃ h l : Int, e = .returned (.tuple #[.int .u64 h, .int .u64 l]) ∧ (h != 0) = true
theorem mul64_lo (ha : Is64 a) (hb : Is64 b) (h : a * b < 18446744073709551616) : Calls Tryd.prog 67 #[.int .u64 a, .int .u64 b] w fun e w' => e = .returned (.tuple #[.int .u64 0, .int .u64 (a * b)]) ∧ w = w' := by
  obtain ⟨ha0, ha⟩ := ha
  obtain ⟨hb0, hb⟩ := hb
  obtain ⟨x, rfl⟩ := Int.eq_ofNat_of_zero_le ha0
  obtain ⟨y, rfl⟩ := Int.eq_ofNat_of_zero_le hb0
  refine (Tryd.bits_Mul64 x y (by omega) (by omega) w).mono fun e w' ⟨he, hw⟩ => ⟨?_, hw.symm⟩
  have h' : x * y < 18446744073709551616 := by rw [← Int.natCast_mul] at h; omega
  rw [he, Nat.div_eq_of_lt h', Nat.mod_eq_of_lt h', Int.natCast_mul]
  rfl
theorem mul64_hi (ha : Is64 a) (hb : Is64 b) (h : 18446744073709551616 ≤ a * b) : Calls Tryd.prog 67 #[.int .u64 a, .int .u64 b] w fun e w' => Upper e ∧ w = w' := by
  obtain ⟨ha0, ha⟩ := ha
  obtain ⟨hb0, hb⟩ := hb
  obtain ⟨x, rfl⟩ := Int.eq_ofNat_of_zero_le ha0
  obtain ⟨y, rfl⟩ := Int.eq_ofNat_of_zero_le hb0
  refine (Tryd.bits_Mul64 x y (by omega) (by omega) w).mono fun e w' ⟨he, hw⟩ => ⟨⟨_, _, he, ?_⟩, hw.symm⟩
  have h' : 18446744073709551616 ≤ x * y := by rw [← Int.natCast_mul] at h; omega
  have : 0 < x * y / 18446744073709551616 := Nat.div_pos h' (by omega)
  rw [bne_iff_ne]; omega
theorem mul_any (ha : Is64 a) (hb : Is64 b) : Calls Tryd.prog 39 #[.int .u64 a, .int .u64 b] w fun e w' => e = Two (mulR a b) ∧ w = w' := by
  by_cases h : a * b < 18446744073709551616
  · have hc := Lib.hid (mul64_lo a b w ha hb h)
    have h' := Lib.hid h; clear h ha hb
    go_enter Tryd.func39, Tryd.ntmps39
    go_wp2_with (go_at_call 67; refine hc.out.mono ?_; rintro e w' ⟨rfl, rfl⟩)
    go_ret2
    exact ⟨two_of (if_pos h'.out), rfl⟩
  · have hc := Lib.hid (mul64_hi a b w ha hb (by omega))
    have h' := Lib.hid h; clear h ha hb
    go_enter Tryd.func39, Tryd.ntmps39
    go_wp2_with (go_at_call 67; refine hc.out.mono ?_; rintro e w' ⟨⟨x, y, rfl, hne⟩, rfl⟩)
    go_ret2
    exact ⟨two_of (if_neg (by have := h'.out; omega)), rfl⟩
end
end Go.Proofs.YtdkmajmmhngdpaaDoor
