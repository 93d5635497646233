import Derived.RangeFuncNested
import Derived.RangeFuncBox
import Derived.RangeFuncBound
import Derived.RangeFuncCalls
import Derived.RangeFuncLeaves
import Derived.Shelf.Abstract
import Derived.Shelf.RegionOpen
import Derived.WalkKit
import Derived.OwnWalkIn
import Derived.TacticsInMore
import Derived.LoopNIn
import Derived.LoopIn
import Derived.Lib.Hide
import Derived.Test.YtdkmajmmhngdpaaDoorB
import Derived.BigQuiet
import Derived.Deep.QuietTactic
namespace Go.Proofs.YtdkmajmmhngdpaaDoor
open Go.RowKit Go.Shelf
attribute [local go_sem] Oper.semAt_some
attribute [local go_sem] wide_fn wide_depth wide_round

/-! ## What digits are worth -/
def worth (c : Int) : Int := if 48 ≤ c ∧ c ≤ 57 then c - 48 else if 97 ≤ c ∧ c ≤ 102 then c - 87 else if 65 ≤ c ∧ c ≤ 70 then c - 55 else 16
def isDig (b c : Int) : Bool := decide (worth c < b)
def moreR (b n c : Int) : Int × Int := if (mulR n b).2 = 0 then addR (mulR n b).1 (worth c) else (0, (mulR n b).2)
theorem worth_64 (c : Int) : Is64 (worth c) := by unfold worth Is64; constructor <;> (repeat' split) <;> omega
theorem ret_bool {a b : Bool} (h : a = b) : Ending.returned (.bool a) = .returned (.bool b) := by rw [h]
theorem ret_u64 {a b : Int} (h : a = b) : Ending.returned (.int .u64 a) = .returned (.int .u64 b) := by rw [h]

section
set_option maxHeartbeats 400000
theorem worth_any (c : Int) (w : World) (h0 : 0 ≤ c) (h1 : c < 256) : Calls Tryd.prog 97 #[.int .u8 c] w fun e w' => e = .returned (.int .u64 (worth c)) ∧ w = w' := by
  have hw : 48 ≤ c ∧ c ≤ 57 ∨ 97 ≤ c ∧ c ≤ 102 ∨ 65 ≤ c ∧ c ≤ 70 ∨ c < 48 ∨ 57 < c ∧ c < 65 ∨ 70 < c ∧ c < 97 ∨ 102 < c := by omega
  rcases hw with h | h | h | h | h | h | h
  all_goals
    go_enter Tryd.func97, Tryd.ntmps97
    go_wp2
    go_ret
    refine ⟨ret_u64 ?_, rfl⟩
    unfold worth
    (repeat' split) <;> omega
theorem refDigit_any (c : Int) (w : World) (h0 : 0 ≤ c) (h1 : c < 256) : Calls Tryd.prog 82 #[.int .u8 c] w fun e w' => e = .returned (.int .u64 (worth c)) ∧ w = w' := by
  have hw : 48 ≤ c ∧ c ≤ 57 ∨ 97 ≤ c ∧ c ≤ 102 ∨ 65 ≤ c ∧ c ≤ 70 ∨ c < 48 ∨ 57 < c ∧ c < 65 ∨ 70 < c ∧ c < 97 ∨ 102 < c := by omega
  rcases hw with h | h | h | h | h | h | h
  all_goals
    go_enter Tryd.func82, Tryd.ntmps82
    go_wp2
    go_ret
    refine ⟨ret_u64 ?_, rfl⟩
    unfold worth
    (repeat' split) <;> omega
theorem digitTo1_any (c b : Int) (B : Nat) (w : World) (h0 : 0 ≤ c) (h1 : c < 256) (hB : w.cell? ⟨B, 0, none⟩ = some (.int .u64 b)) :
    Calls Tryd.prog 96 #[.int .u8 c, .pointer (some ⟨B, 0, none⟩)] w fun e w' => e = .returned (.bool (isDig b c)) ∧ ∃ q, w' = w.drewN q := by
  go_enter Tryd.func96, Tryd.ntmps96
  go_wp2
  go_quiet ((go_at_call 97; exact Calls.quiet_of_same ((worth_any _ _ (by omega) (by omega)).mono fun e w' ⟨h, h'⟩ => ⟨h, h'.symm⟩)))
  all_goals go_wp2
  all_goals go_ret
  all_goals exact ⟨rfl, _, rfl⟩
theorem digitTo_any (b : Int) (w : World) : Calls Tryd.prog 69 #[.int .u64 b] w fun e w' => e = .returned (.func (.func 96) #[] #[.pointer (some ⟨w.heap.size, 0, none⟩)]) ∧ w' = w.alloc (.cells #[.int .u64 b] 22) := by
  go_enter Tryd.func69, Tryd.ntmps69
  go_wp2
  go_ret
  exact ⟨rfl, rfl⟩
theorem all_any (s : ByteArray) (w : World) : Calls Tryd.prog 71 #[.string s] w fun e w' => e = .returned (.func (.func 98) #[] #[.pointer (some ⟨w.heap.size, 0, none⟩)]) ∧ w' = w.alloc (.cells #[.string s] 58) := by
  go_enter Tryd.func71, Tryd.ntmps71
  go_wp2
  go_ret
  exact ⟨rfl, rfl⟩
theorem empty_yes (w : World) : Calls Tryd.prog 70 #[.string ⟨#[]⟩] w fun e w' => e = .returned (.bool true) ∧ w = w' := by
  go_enter Tryd.func70, Tryd.ntmps70
  go_wp2
  go_ret
  exact ⟨rfl, rfl⟩
theorem empty_no (s : ByteArray) (w : World) (hs : ((s.size : Int) == 0) = false) : Calls Tryd.prog 70 #[.string s] w fun e w' => e = .returned (.bool false) ∧ w = w' := by
  go_enter Tryd.func70, Tryd.ntmps70
  go_wp2
  go_ret
  exact ⟨rfl, rfl⟩
/-- A nought stands ahead of others. -/
def padB (l : List UInt8) : Bool := decide (1 < l.length) && l[0]?.getD 0 == 48
theorem padded_any (s : ByteArray) (w : World) (hm : s.size ≤ 9223372036854775807) : Calls Tryd.prog 43 #[.string s] w fun e w' => e = .returned (.bool (padB s.data.toList)) ∧ w = w' := by
  go_enter Tryd.func43, Tryd.ntmps43
  go_wp2
  all_goals go_ret
  all_goals refine ⟨ret_bool ?_, rfl⟩
  · unfold padB
    rename_i h1 h2
    have e : s.data.toList[0]? = some s[0] := by
      rw [Array.getElem?_toList]
      exact Array.getElem?_eq_getElem (show 0 < s.data.size from h2)
    rw [e]
    have e2 : ((s[0].toNat : Int) == 48) = (s[0] == 48) := by
      rw [Bool.eq_iff_iff, beq_iff_eq, beq_iff_eq, ← UInt8.toNat_inj]
      constructor
      · intro h; simp; omega
      · intro h; rw [h]; rfl
    rw [e2]
    have : decide (1 < s.data.toList.length) = true := by simp; omega
    rw [this]
    rfl
  · unfold padB
    rename_i h1
    have : decide (1 < s.data.toList.length) = false := by simp; omega
    rw [this]
    rfl
theorem mulR_64 {a b : Int} (ha : Is64 a) (hb : Is64 b) : Is64 (mulR a b).1 := by
  have := Int.mul_nonneg ha.1 hb.1
  unfold mulR Is64 at *; split <;> constructor <;> simp <;> omega
theorem more_any (s : ByteArray) (b n c : Int) (w : World) (hb : Is64 b) (hn : Is64 n) (h0 : 0 ≤ c) (h1 : c < 256) :
    Calls Tryd.prog 72 #[.agg #[.string s, .int .u64 b], .int .u64 n, .int .u8 c] w fun e w' => e = Two (moreR b n c) ∧ Below w.heap.size w w' := by
  have hc := fun w => mul_any n b w hn hb
  have h64 := mulR_64 hn hb
  have hr : moreR b n c = if (mulR n b).2 = 0 then addR (mulR n b).1 (worth c) else (0, (mulR n b).2) := rfl
  generalize mulR n b = r at hc h64 hr
  have hw := worth_64 c
  have ha := fun w => add_any r.1 (worth c) w h64 hw
  generalize addR r.1 (worth c) = t at ha hr
  have hr' := Lib.hid hr
  have hc' := Lib.hid hc
  have ha' := Lib.hid ha
  clear hr hc ha h64 hw
  by_cases hz : r.2 = 0
  · have hz1 : (r.2 != 0) = false := by rw [bne_eq_false_iff_eq]; exact hz
    have hz' := Lib.hid hz
    clear hz
    go_enter Tryd.func72, Tryd.ntmps72
    go_wp2_with (first | (go_at_call 39; refine (hc'.out _).mono ?_; rintro e w' ⟨rfl, rfl⟩; simp only [Two]) | (go_at_call 97; refine (worth_any _ _ (by omega) (by omega)).mono ?_; rintro e w' ⟨rfl, rfl⟩) | (go_at_call 37; refine (ha'.out _).mono ?_; rintro e w' ⟨rfl, rfl⟩; simp only [Two]))
    go_ret2
    exact ⟨two_of (hr'.out.trans (if_pos hz'.out)), (Below.refl _ _).alloc (Nat.le_refl _) _⟩
  · have hz1 : (r.2 != 0) = true := by rw [bne_iff_ne]; exact hz
    have hz' := Lib.hid hz
    clear hz
    go_enter Tryd.func72, Tryd.ntmps72
    go_wp2_with (first | (go_at_call 39; refine (hc'.out _).mono ?_; rintro e w' ⟨rfl, rfl⟩; simp only [Two]))
    go_ret2
    exact ⟨two_of (hr'.out.trans (if_neg hz'.out)), (Below.refl _ _).alloc (Nat.le_refl _) _⟩
end
end Go.Proofs.YtdkmajmmhngdpaaDoor
