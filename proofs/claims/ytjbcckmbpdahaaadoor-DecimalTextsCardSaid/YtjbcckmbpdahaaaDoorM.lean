import Derived.RangeFuncNested
import Derived.RangeFuncBox
import Derived.RangeFuncBound
import Derived.RangeFuncCalls
import Derived.RangeFuncLeaves
import Derived.Shelf.Abstract
import Derived.Shelf.RegionOpen
import Derived.WalkKit
import Derived.OwnWalkIn
import Derived.TacticsInMore
import Derived.LoopNIn
import Derived.LoopIn
import Derived.Lib.Hide
import Derived.Test.YtjbcckmbpdahaaaDoorH
import Derived.Test.YtjbcckmbpdahaaaDoorK
import Derived.KernelRfl
import Derived.ScopeJumps
import Derived.WalkMore
import Derived.Laws.EntriesVeiled
import Derived.BigQuiet
import Derived.Deep.QuietTactic
namespace Go.Proofs.YtjbcckmbpdahaaaDoor
open Go.RowKit Go.Shelf
attribute [local go_sem] Oper.semAt_some
attribute [local go_sem] wide_fn wide_depth wide_round

/-! ## The law of texts -/
theorem cat_list (l m : List UInt8) : ((⟨l.toArray⟩ : ByteArray) ++ ⟨m.toArray⟩).data.toList = l ++ m := by simp [ByteArray.data_append]
theorem cat_size (l m : List UInt8) : ((⟨l.toArray⟩ : ByteArray) ++ ⟨m.toArray⟩).size = l.length + m.length := by
  show ((⟨l.toArray⟩ : ByteArray) ++ ⟨m.toArray⟩).data.size = _
  simp [ByteArray.data_append]
theorem mk_size (l : List UInt8) : (⟨l.toArray⟩ : ByteArray).size = l.length := by show l.toArray.size = _; simp

set_option maxRecDepth 100000 in
set_option maxHeartbeats 2000000 in
theorem lawTexts (x : Nat) (m : Int) (hx : x < 18446744073709551616) (w : World) (hT : Tab w) :
    Calls Tryd.prog 4 #[.int .u64 x, .int .i64 m] w fun e w' => e = .returned (.bool true) ∧ Below w.heap.size w w' := by
  by_cases hm : m < 0 ∨ 30 < m
  · rcases hm with hm | hm
    all_goals
      go_enter Tryd.func4, Tryd.ntmps4
      go_wp2_with (first | (go_at_call 8; refine (works_any _ hT).mono ?_; rintro e w9 ⟨rfl, hb9⟩))
      go_ret
      exact ⟨rfl, by assumption⟩
  · obtain ⟨k, rfl⟩ := Int.eq_ofNat_of_zero_le (show 0 ≤ m by omega)
    have hk : k ≤ 30 := by omega
    clear hm
    have hx' := Lib.hid hx
    clear hx
    go_enter Tryd.func4, Tryd.ntmps4
    go_wp2_with fail
    refine (textCall_any x hx'.out _ hT).mono ?_
    rintro e w1 ⟨⟨K, hK, rfl⟩, hb1⟩
    have hT1 := hT.below hb1
    have hK' := Lib.hid hK
    have hK20 : K ≤ 20 := (isLen_le (.inl rfl) hx'.out hK).2
    clear hK
    have s10 : (⟨(txt 10 x K).toArray⟩ : ByteArray).size = K := by rw [mk_size, txt_length]
    go_wp2_with fail
    refine (hexCall_any x hx'.out _ hT1).mono ?_
    rintro e w2 ⟨⟨M, hM, rfl⟩, hb2⟩
    have hT2 := hT1.below hb2
    have hM' := Lib.hid hM
    have hM20 : M ≤ 20 := (isLen_le (.inr rfl) hx'.out hM).2
    clear hM
    have s16 : (⟨(txt 16 x M).toArray⟩ : ByteArray).size = M := by rw [mk_size, txt_length]
    go_wp2_with fail
    refine (parseCall_any _ (by rw [s10]; omega) _ hT2).mono ?_
    rintro e w3 ⟨rfl, hb3⟩
    have hT3 := hT2.below hb3
    rw [show (⟨(txt 10 x K).toArray⟩ : ByteArray).data.toList = txt 10 x K from by simp, parseR_txt hx'.out hK'.out]
    simp only [Two]
    go_wp2_with fail
    refine (hexDigitsCall_any _ (by rw [s16]; omega) _ hT3).mono ?_
    rintro e w4 ⟨rfl, hb4⟩
    have hT4 := hT3.below hb4
    rw [show (⟨(txt 16 x M).toArray⟩ : ByteArray).data.toList = List.replicate 0 48 ++ spelt sgn 16 x M from by simp [txt_spelt], show (16 : Int) = ((16 : Nat) : Int) from rfl, numR_spelt fair_sgn (.inr rfl) hx'.out hM'.out 0]
    simp only [Two]
    go_wp2_with fail
    refine (Tryd.strings_Repeat ⟨#[48]⟩ k _ (by omega) (by show 1 * k ≤ _; omega)).mono ?_
    rintro e w5 ⟨rfl, hb5⟩
    have hT5 := hT4.below hb5
    rw [show Lib.repeatL (⟨#[48]⟩ : ByteArray).data.toList k = List.replicate k 48 from repeat_zero k]
    have srep : (⟨(List.replicate k (48 : UInt8)).toArray⟩ : ByteArray).size = k := by rw [mk_size]; simp
    have hcat := cat_list (List.replicate k 48) (txt 10 x K)
    have hcats := cat_size (List.replicate k 48) (txt 10 x K)
    rw [txt_length, List.length_replicate] at hcats
    generalize (⟨(List.replicate k (48 : UInt8)).toArray⟩ : ByteArray) = z at srep hcat hcats ⊢
    have hcat' := Lib.hid hcat
    have hcats' := Lib.hid hcats
    clear hcat hcats
    go_wp2_with fail
    refine (digitsCall_any _ (by rw [hcats'.out]; omega) _ hT5).mono ?_
    rintro e w6 ⟨rfl, hb6⟩
    have hT6 := hT5.below hb6
    rw [hcat'.out, txt_spelt, show (10 : Int) = ((10 : Nat) : Int) from rfl, numR_spelt fair_sgn (.inl rfl) hx'.out hK'.out k]
    simp only [Two]
    go_wp2_with fail
    refine (Tryd.strings_ToUpper_ascii ⟨(txt 16 x M).toArray⟩ _ (by rw [s16]; omega) (fun j c h => txt_ascii x M j c (by simpa using h))).mono ?_
    rintro e w7 ⟨rfl, hb7⟩
    have hT7 := hT6.below hb7
    rw [show Lib.toUpperA (⟨(txt 16 x M).toArray⟩ : ByteArray).data.toList = spelt (fun d => Lib.upperB (sgn d)) 16 x M from by rw [← upper_spelt]]
    go_wp2_with fail
    refine (hexDigitsCall_any _ (by rw [mk_size, spelt_length]; omega) _ hT7).mono ?_
    rintro e w8 ⟨rfl, hb8⟩
    have hT8 := hT7.below hb8
    rw [show (⟨(spelt (fun d => Lib.upperB (sgn d)) 16 x M).toArray⟩ : ByteArray).data.toList = List.replicate 0 48 ++ spelt (fun d => Lib.upperB (sgn d)) 16 x M from by simp, show (16 : Int) = ((16 : Nat) : Int) from rfl, numR_spelt fair_upper (.inr rfl) hx'.out hM'.out 0]
    simp only [Two]
    go_wp2_with fail
    refine (refText_any x hx'.out _).mono ?_
    rintro e w' ⟨⟨K2, hK2, rfl⟩, rfl⟩
    obtain rfl := isLen_one (by omega) hK'.out hK2
    clear hK2
    go_wp2_with fail
    refine (refHex_any x hx'.out _).mono ?_
    rintro e w' ⟨⟨M2, hM2, rfl⟩, rfl⟩
    obtain rfl := isLen_one (by omega) hM'.out hM2
    clear hM2
    go_wp2_with (first | (go_at_call 21; refine (num_any _ _).mono ?_; rintro e w' ⟨rfl, rfl⟩) | (go_at_call 8; refine (works_any _ hT8).mono ?_; rintro e w9 ⟨rfl, hb9⟩))
    go_ret
    exact ⟨rfl, below_on (below_on (below_on (below_on (below_on (below_on (below_on (below_on hb1 hb2) hb3) hb4) hb5) hb6) hb7) hb8) (by assumption)⟩
end Go.Proofs.YtjbcckmbpdahaaaDoor
