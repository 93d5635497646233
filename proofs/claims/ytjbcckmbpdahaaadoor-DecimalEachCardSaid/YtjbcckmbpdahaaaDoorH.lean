import Derived.RangeFuncNested
import Derived.RangeFuncBox
import Derived.RangeFuncBound
import Derived.RangeFuncCalls
import Derived.RangeFuncLeaves
import Derived.Shelf.Abstract
import Derived.Shelf.RegionOpen
import Derived.WalkKit
import Derived.OwnWalkIn
import Derived.TacticsInMore
import Derived.LoopNIn
import Derived.LoopIn
import Derived.Lib.Hide
import Derived.Test.YtjbcckmbpdahaaaDoorG
import Derived.KernelRfl
import Derived.ScopeJumps
import Derived.WalkMore
import Derived.Laws.EntriesVeiled
import Derived.BigQuiet
import Derived.Deep.QuietTactic
namespace Go.Proofs.YtjbcckmbpdahaaaDoor
open Go.RowKit Go.Shelf
attribute [local go_sem] Oper.semAt_some
attribute [local go_sem] wide_fn wide_depth wide_round

/-! ## The chapter's rows -/
theorem num_any (e : Int) (w : World) : Calls Tryd.prog 21 #[.int .i64 e] w fun r w' => r = .returned (.int .i64 e) ∧ w = w' := by
  go_enter Tryd.func21, Tryd.ntmps21
  go_wp2
  go_ret
  exact ⟨rfl, rfl⟩
theorem k_add (w : World) : Calls Tryd.prog 9 #[.int .u64 18446744073709551615, .int .u64 1] w fun e w' => e = .returned (.tuple #[.int .u64 0, .int .i64 111]) ∧ w = w' :=
  (add_any 18446744073709551615 1 w ⟨by omega, by omega⟩ ⟨by omega, by omega⟩).mono fun e w' ⟨h, h'⟩ => ⟨h.trans (by kernel_rfl), h'⟩
theorem k_sub (w : World) : Calls Tryd.prog 10 #[.int .u64 1, .int .u64 2] w fun e w' => e = .returned (.tuple #[.int .u64 0, .int .i64 112]) ∧ w = w' :=
  (sub_any 1 2 w ⟨by omega, by omega⟩ ⟨by omega, by omega⟩).mono fun e w' ⟨h, h'⟩ => ⟨h.trans (by kernel_rfl), h'⟩
theorem k_mul (w : World) : Calls Tryd.prog 11 #[.int .u64 4294967296, .int .u64 4294967296] w fun e w' => e = .returned (.tuple #[.int .u64 0, .int .i64 111]) ∧ w = w' :=
  (mul_any 4294967296 4294967296 w ⟨by omega, by omega⟩ ⟨by omega, by omega⟩).mono fun e w' ⟨h, h'⟩ => ⟨h.trans (by kernel_rfl), h'⟩
theorem k_next1 (w : World) : Calls Tryd.prog 12 #[.int .u64 9, .int .u64 10] w fun e w' => e = .returned (.tuple #[.int .u64 10, .int .i64 0]) ∧ w = w' :=
  (next_any 9 10 w ⟨by omega, by omega⟩ ⟨by omega, by omega⟩).mono fun e w' ⟨h, h'⟩ => ⟨h.trans (by kernel_rfl), h'⟩
theorem k_next2 (w : World) : Calls Tryd.prog 12 #[.int .u64 10, .int .u64 10] w fun e w' => e = .returned (.tuple #[.int .u64 0, .int .i64 111]) ∧ w = w' :=
  (next_any 10 10 w ⟨by omega, by omega⟩ ⟨by omega, by omega⟩).mono fun e w' ⟨h, h'⟩ => ⟨h.trans (by kernel_rfl), h'⟩
theorem k_clamp1 (w : World) : Calls Tryd.prog 14 #[.int .u64 5, .int .u64 7, .int .u64 9] w fun e w' => e = .returned (.tuple #[.int .u64 7, .int .i64 0]) ∧ w = w' :=
  (clamp_any 5 7 9 w ⟨by omega, by omega⟩ ⟨by omega, by omega⟩ ⟨by omega, by omega⟩).mono fun e w' ⟨h, h'⟩ => ⟨h.trans (by kernel_rfl), h'⟩
theorem k_clamp2 (w : World) : Calls Tryd.prog 14 #[.int .u64 5, .int .u64 9, .int .u64 7] w fun e w' => e = .returned (.tuple #[.int .u64 0, .int .i64 2]) ∧ w = w' :=
  (clamp_any 5 9 7 w ⟨by omega, by omega⟩ ⟨by omega, by omega⟩ ⟨by omega, by omega⟩).mono fun e w' ⟨h, h'⟩ => ⟨h.trans (by kernel_rfl), h'⟩
theorem k_parse1 (w : World) (hT : Tab w) : Calls Tryd.prog 24 #[.string ⟨#[48, 48, 55]⟩] w fun e w' => e = .returned (.tuple #[.int .u64 0, .int .i64 110]) ∧ Below w.heap.size w w' :=
  (parseCall_any ⟨#[48, 48, 55]⟩ (show (⟨#[48, 48, 55]⟩ : ByteArray).size ≤ 9223372036854775807 by decide) w hT).mono fun e w' ⟨h, h'⟩ => ⟨h.trans (by kernel_rfl), h'⟩
theorem k_digits (w : World) (hT : Tab w) : Calls Tryd.prog 26 #[.string ⟨#[48, 48, 55]⟩] w fun e w' => e = .returned (.tuple #[.int .u64 7, .int .i64 0]) ∧ Below w.heap.size w w' :=
  (digitsCall_any ⟨#[48, 48, 55]⟩ (show (⟨#[48, 48, 55]⟩ : ByteArray).size ≤ 9223372036854775807 by decide) w hT).mono fun e w' ⟨h, h'⟩ => ⟨h.trans (by kernel_rfl), h'⟩
theorem k_hex (w : World) (hT : Tab w) : Calls Tryd.prog 25 #[.string ⟨#[49, 97, 70]⟩] w fun e w' => e = .returned (.tuple #[.int .u64 431, .int .i64 0]) ∧ Below w.heap.size w w' :=
  (hexDigitsCall_any ⟨#[49, 97, 70]⟩ (show (⟨#[49, 97, 70]⟩ : ByteArray).size ≤ 9223372036854775807 by decide) w hT).mono fun e w' ⟨h, h'⟩ => ⟨h.trans (by kernel_rfl), h'⟩
theorem k_parse2 (w : World) (hT : Tab w) : Calls Tryd.prog 24 #[.string ⟨#[49, 56, 52, 52, 54, 55, 52, 52, 48, 55, 51, 55, 48, 57, 53, 53, 49, 54, 49, 54]⟩] w fun e w' => e = .returned (.tuple #[.int .u64 0, .int .i64 111]) ∧ Below w.heap.size w w' :=
  (parseCall_any ⟨#[49, 56, 52, 52, 54, 55, 52, 52, 48, 55, 51, 55, 48, 57, 53, 53, 49, 54, 49, 54]⟩ (show (⟨#[49, 56, 52, 52, 54, 55, 52, 52, 48, 55, 51, 55, 48, 57, 53, 53, 49, 54, 49, 54]⟩ : ByteArray).size ≤ 9223372036854775807 by decide) w hT).mono fun e w' ⟨h, h'⟩ => ⟨h.trans (by kernel_rfl), h'⟩
theorem k_parse3 (w : World) (hT : Tab w) : Calls Tryd.prog 24 #[.string ⟨#[]⟩] w fun e w' => e = .returned (.tuple #[.int .u64 0, .int .i64 110]) ∧ Below w.heap.size w w' :=
  (parseCall_any ⟨#[]⟩ (show (⟨#[]⟩ : ByteArray).size ≤ 9223372036854775807 by decide) w hT).mono fun e w' ⟨h, h'⟩ => ⟨h.trans (by kernel_rfl), h'⟩
theorem k_text (w : World) (hT : Tab w) : Calls Tryd.prog 23 #[.int .u64 431] w fun e w' => e = .returned (.string ⟨#[49, 97, 102]⟩) ∧ Below w.heap.size w w' :=
  (hexCall_any 431 (by omega) w hT).mono fun e w' ⟨⟨K, hK, h⟩, h'⟩ => ⟨by
    have : IsLen 16 431 3 := ⟨by decide, by decide, .inr (by decide)⟩
    rw [h, isLen_one (by omega) hK this]
    rfl, h'⟩

set_option maxRecDepth 100000 in
set_option maxHeartbeats 2000000 in
theorem works_any (w : World) (hT : Tab w) : Calls Tryd.prog 8 #[] w fun e w' => e = .returned (.bool true) ∧ Below w.heap.size w w' := by
  go_enter Tryd.func8, Tryd.ntmps8
  go_wp2_with fail
  refine (k_add _).mono ?_
  rintro e w' ⟨rfl, rfl⟩
  go_wp2_with fail
  refine (k_sub _).mono ?_
  rintro e w' ⟨rfl, rfl⟩
  go_wp2_with fail
  refine (k_mul _).mono ?_
  rintro e w' ⟨rfl, rfl⟩
  go_wp2_with fail
  refine (k_next1 _).mono ?_
  rintro e w' ⟨rfl, rfl⟩
  go_wp2_with fail
  refine (k_next2 _).mono ?_
  rintro e w' ⟨rfl, rfl⟩
  go_wp2_with fail
  refine (k_parse1 _ (by exact hT)).mono ?_
  rintro e w1 ⟨rfl, hb1⟩
  have hT1 := hT.below hb1
  go_wp2_with fail
  refine (k_digits _ (by exact hT1)).mono ?_
  rintro e w2 ⟨rfl, hb2⟩
  have hT2 := hT1.below hb2
  go_wp2_with fail
  refine (k_hex _ (by exact hT2)).mono ?_
  rintro e w3 ⟨rfl, hb3⟩
  have hT3 := hT2.below hb3
  go_wp2_with fail
  refine (k_parse2 _ (by exact hT3)).mono ?_
  rintro e w4 ⟨rfl, hb4⟩
  have hT4 := hT3.below hb4
  go_wp2_with fail
  refine (k_parse3 _ (by exact hT4)).mono ?_
  rintro e w5 ⟨rfl, hb5⟩
  have hT5 := hT4.below hb5
  go_wp2_with fail
  refine (k_clamp1 _).mono ?_
  rintro e w' ⟨rfl, rfl⟩
  go_wp2_with fail
  refine (k_clamp2 _).mono ?_
  rintro e w' ⟨rfl, rfl⟩
  go_wp2_with (first | (go_at_call 21; refine (num_any _ _).mono ?_; rintro e w' ⟨rfl, rfl⟩) | (go_at_call 23; refine (k_text _ hT5).mono ?_; rintro e w6 ⟨rfl, hb6⟩))
  go_ret
  exact ⟨rfl, below_on (below_on (below_on (below_on (below_on hb1 hb2) hb3) hb4) hb5) (by assumption)⟩
end Go.Proofs.YtjbcckmbpdahaaaDoor
