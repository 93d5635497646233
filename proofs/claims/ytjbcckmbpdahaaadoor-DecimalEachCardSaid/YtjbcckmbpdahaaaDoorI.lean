import Derived.RangeFuncNested
import Derived.RangeFuncBox
import Derived.RangeFuncBound
import Derived.RangeFuncCalls
import Derived.RangeFuncLeaves
import Derived.Shelf.Abstract
import Derived.Shelf.RegionOpen
import Derived.WalkKit
import Derived.OwnWalkIn
import Derived.TacticsInMore
import Derived.LoopNIn
import Derived.LoopIn
import Derived.Lib.Hide
import Derived.Test.YtjbcckmbpdahaaaDoorH
import Derived.KernelRfl
import Derived.ScopeJumps
import Derived.WalkMore
import Derived.Laws.EntriesVeiled
import Derived.BigQuiet
import Derived.Deep.QuietTactic
namespace Go.Proofs.YtjbcckmbpdahaaaDoor
open Go.RowKit Go.Shelf
attribute [local go_sem] Oper.semAt_some
attribute [local go_sem] wide_fn wide_depth wide_round

/-! ## The laws of sums and of reading -/
set_option maxRecDepth 100000 in
set_option maxHeartbeats 2000000 in
theorem lawSums (a b c : Int) (ha : Is64 a) (hb : Is64 b) (hc : Is64 c) (A : Option Addr) (cap : Nat) (zs : List Int) (w : World) (hz : Hid (Nums w A zs)) (hT : Tab w) :
    Calls Tryd.prog 3 #[.int .u64 a, .int .u64 b, .int .u64 c, .slice A zs.length cap] w fun e w' => e = .returned (.bool true) ∧ Below w.heap.size w w' := by
  have hm : zs.length ≤ 9223372036854775807 := hz.out.2.1
  by_cases h40 : 40 < zs.length
  · go_enter Tryd.func3, Tryd.ntmps3
    go_wp2_with (first | (go_at_call 8; refine (works_any _ (by assumption)).mono ?_; rintro e w9 ⟨rfl, hb9⟩))
    go_ret
    exact ⟨rfl, by assumption⟩
  · go_enter Tryd.func3, Tryd.ntmps3
    go_wp2_with (first | (go_at_call 21; refine (num_any _ _).mono ?_; rintro e w' ⟨rfl, rfl⟩) | (go_at_call 8; refine (works_any _ (by assumption)).mono ?_; rintro e w9 ⟨rfl, hb9⟩) | (go_at_call 9; refine (add_any _ _ _ ha hb).mono ?_; rintro e w' ⟨rfl, rfl⟩; simp only [Two]) | (go_at_call 10; refine (sub_any _ _ _ ha hb).mono ?_; rintro e w' ⟨rfl, rfl⟩; simp only [Two]) | (go_at_call 11; refine (mul_any _ _ _ ha hb).mono ?_; rintro e w' ⟨rfl, rfl⟩; simp only [Two]) | (go_at_call 12; refine (next_any _ _ _ ha hb).mono ?_; rintro e w' ⟨rfl, rfl⟩; simp only [Two]) | (go_at_call 13; refine (sum_any _ _ _ _ hz.out).mono ?_; rintro e w' ⟨rfl, rfl⟩; simp only [Two]) | (go_at_call 14; refine (clamp_any _ _ _ _ ha hb hc).mono ?_; rintro e w' ⟨rfl, rfl⟩; simp only [Two]) | (go_at_call 15; refine (refAdd_any _ _ _ ha hb).mono ?_; rintro e w' ⟨rfl, rfl⟩; simp only [Two]) | (go_at_call 16; refine (refSub_any _ _ _ ha hb).mono ?_; rintro e w' ⟨rfl, rfl⟩; simp only [Two]) | (go_at_call 17; refine (refMul_any _ _ _ ha hb).mono ?_; rintro e w' ⟨rfl, rfl⟩; simp only [Two]) | (go_at_call 18; refine (refNext_any _ _ _ ha hb).mono ?_; rintro e w' ⟨rfl, rfl⟩; simp only [Two]) | (go_at_call 19; refine (refSum_any _ _ _ _ hz.out).mono ?_; rintro e w' ⟨rfl, rfl⟩; simp only [Two]) | (go_at_call 20; refine (refClamp_any _ _ _ _ ha hb hc).mono ?_; rintro e w' ⟨rfl, rfl⟩; simp only [Two]))
    go_goals
    go_ret
    exact ⟨rfl, by assumption⟩

set_option maxRecDepth 100000 in
set_option maxHeartbeats 2000000 in
theorem lawParses (s : ByteArray) (hm : s.size ≤ 9223372036854775807) (w : World) (hT : Tab w) :
    Calls Tryd.prog 5 #[.string s] w fun e w' => e = .returned (.bool true) ∧ Below w.heap.size w w' := by
  by_cases h60 : 60 < s.size
  · go_enter Tryd.func5, Tryd.ntmps5
    go_wp2_with (first | (go_at_call 8; refine (works_any _ (by assumption)).mono ?_; rintro e w9 ⟨rfl, hb9⟩))
    go_ret
    exact ⟨rfl, by assumption⟩
  · go_enter Tryd.func5, Tryd.ntmps5
    go_wp2_with fail
    refine (parseCall_any s hm _ hT).mono ?_
    rintro e w1 ⟨rfl, hb1⟩
    have hT1 := hT.below hb1
    simp only [Two]
    go_wp2_with fail
    refine (digitsCall_any s hm _ hT1).mono ?_
    rintro e w2 ⟨rfl, hb2⟩
    have hT2 := hT1.below hb2
    simp only [Two]
    go_wp2_with fail
    refine (hexDigitsCall_any s hm _ hT2).mono ?_
    rintro e w3 ⟨rfl, hb3⟩
    have hT3 := hT2.below hb3
    simp only [Two]
    go_wp2_with (first | (go_at_call 21; refine (num_any _ _).mono ?_; rintro e w' ⟨rfl, rfl⟩) | (go_at_call 8; refine (works_any _ hT3).mono ?_; rintro e w9 ⟨rfl, hb9⟩) | (go_at_call 31; refine (refParse_any s hm _).mono ?_; rintro e w' ⟨rfl, rfl⟩; simp only [Two]) | (go_at_call 32; refine (refDigits_any s hm _).mono ?_; rintro e w' ⟨rfl, rfl⟩; simp only [Two]) | (go_at_call 33; refine (refHexDigits_any s hm _).mono ?_; rintro e w' ⟨rfl, rfl⟩; simp only [Two]))
    go_goals
    go_ret
    exact ⟨rfl, below_on (below_on (below_on hb1 hb2) hb3) (by assumption)⟩
end Go.Proofs.YtjbcckmbpdahaaaDoor
