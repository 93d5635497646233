import Derived.Test.YthpohjafnljfhaaPk35
import Derived.Test.YthpohjafnljfhaaPk37
import Derived.Deep.Cut
namespace Go.Proofs.Ythpohjafnljfhaa
open Go.RowKit
attribute [local go_sem] Oper.semAt_some

/-! ## The chapter's rows -/
def wkL : List (List UInt8) := [[116, 101, 120, 116], [97, 47, 98, 59, 113, 61, 49, 46, 53], [97, 47, 98, 59, 113, 61, 48, 46, 49, 50, 51, 52]]
theorem wkL_C : (strsC wkL).toArray = #[.string ⟨#[116, 101, 120, 116]⟩, .string ⟨#[97, 47, 98, 59, 113, 61, 49, 46, 53]⟩, .string ⟨#[97, 47, 98, 59, 113, 61, 48, 46, 49, 50, 51, 52]⟩] := rfl
theorem wkL_none : ∀ y ∈ wkL, Ac.list y = none ∧ y.length ≤ 100 := by decide +kernel
section
variable (hP : AcProg) (w : World) (hT : TabA w)
include hP hT
theorem wkA_q1 : Calls Try.prog 13 #[.string ⟨#[116, 101, 120, 116, 47, 42, 59, 113, 61, 48, 46, 53, 44, 32, 116, 101, 120, 116, 47, 101, 118, 101, 110, 116, 45, 115, 116, 114, 101, 97, 109]⟩, .string ⟨#[116, 101, 120, 116]⟩, .string ⟨#[101, 118, 101, 110, 116, 45, 115, 116, 114, 101, 97, 109]⟩] w fun e w' => e = .returned (.tuple #[.int .i64 1000, .int .i64 0]) ∧ Below w.heap.size w w' := by
  have h := hP.quality [116, 101, 120, 116, 47, 42, 59, 113, 61, 48, 46, 53, 44, 32, 116, 101, 120, 116, 47, 101, 118, 101, 110, 116, 45, 115, 116, 114, 101, 97, 109] [116, 101, 120, 116] [101, 118, 101, 110, 116, 45, 115, 116, 114, 101, 97, 109] w hT (by decide) (by decide) (by decide) (by decide) (by decide)
  rwa [show Ac.quality [116, 101, 120, 116, 47, 42, 59, 113, 61, 48, 46, 53, 44, 32, 116, 101, 120, 116, 47, 101, 118, 101, 110, 116, 45, 115, 116, 114, 101, 97, 109] [116, 101, 120, 116] [101, 118, 101, 110, 116, 45, 115, 116, 114, 101, 97, 109] = some 1000 by decide +kernel] at h
theorem wkA_q2 : Calls Try.prog 13 #[.string ⟨#[]⟩, .string ⟨#[116, 101, 120, 116]⟩, .string ⟨#[101, 118, 101, 110, 116, 45, 115, 116, 114, 101, 97, 109]⟩] w fun e w' => e = .returned (.tuple #[.int .i64 1000, .int .i64 0]) ∧ Below w.heap.size w w' := by
  have h := hP.quality [] [116, 101, 120, 116] [101, 118, 101, 110, 116, 45, 115, 116, 114, 101, 97, 109] w hT (by decide) (by decide) (by decide) (by decide) (by decide)
  rwa [show Ac.quality [] [116, 101, 120, 116] [101, 118, 101, 110, 116, 45, 115, 116, 114, 101, 97, 109] = some 1000 by decide +kernel] at h
theorem wkA_q3 : Calls Try.prog 13 #[.string ⟨#[42, 47, 42, 59, 113, 61, 48, 46, 50, 53, 44, 32, 116, 101, 120, 116, 47, 104, 116, 109, 108, 59, 113, 61, 49]⟩, .string ⟨#[116, 101, 120, 116]⟩, .string ⟨#[101, 118, 101, 110, 116, 45, 115, 116, 114, 101, 97, 109]⟩] w fun e w' => e = .returned (.tuple #[.int .i64 250, .int .i64 0]) ∧ Below w.heap.size w w' := by
  have h := hP.quality [42, 47, 42, 59, 113, 61, 48, 46, 50, 53, 44, 32, 116, 101, 120, 116, 47, 104, 116, 109, 108, 59, 113, 61, 49] [116, 101, 120, 116] [101, 118, 101, 110, 116, 45, 115, 116, 114, 101, 97, 109] w hT (by decide) (by decide) (by decide) (by decide) (by decide)
  rwa [show Ac.quality [42, 47, 42, 59, 113, 61, 48, 46, 50, 53, 44, 32, 116, 101, 120, 116, 47, 104, 116, 109, 108, 59, 113, 61, 49] [116, 101, 120, 116] [101, 118, 101, 110, 116, 45, 115, 116, 114, 101, 97, 109] = some 250 by decide +kernel] at h
theorem wkA_t : Calls Try.prog 14 #[.string ⟨#[116, 101, 120, 116, 47, 101, 118, 101, 110, 116, 45, 115, 116, 114, 101, 97, 109, 59, 113, 61, 48]⟩, .string ⟨#[116, 101, 120, 116]⟩, .string ⟨#[101, 118, 101, 110, 116, 45, 115, 116, 114, 101, 97, 109]⟩] w fun e w' => e = .returned (.bool false) ∧ Below w.heap.size w w' := by
  have h := hP.takes [116, 101, 120, 116, 47, 101, 118, 101, 110, 116, 45, 115, 116, 114, 101, 97, 109, 59, 113, 61, 48] [116, 101, 120, 116] [101, 118, 101, 110, 116, 45, 115, 116, 114, 101, 97, 109] w hT (by decide) (by decide) (by decide) (by decide) (by decide)
  rwa [show Ac.quality [116, 101, 120, 116, 47, 101, 118, 101, 110, 116, 45, 115, 116, 114, 101, 97, 109, 59, 113, 61, 48] [116, 101, 120, 116] [101, 118, 101, 110, 116, 45, 115, 116, 114, 101, 97, 109] = some 0 by decide +kernel] at h
theorem wkA_w1 : Calls Try.prog 6 #[.float .f64 4602678819172646912] w fun e w' => e = .returned (.int .i64 500) ∧ Below w.heap.size w w' := by
  have h := hP.weigh 4602678819172646912 w hT (by decide)
  rwa [show weighF 4602678819172646912 = 500 by decide +kernel] at h
theorem wkA_w2 : Calls Try.prog 6 #[.float .f64 9221120237041090561] w fun e w' => e = .returned (.int .i64 0) ∧ Below w.heap.size w w' := by
  have h := hP.weigh 9221120237041090561 w hT (by decide)
  rwa [show weighF 9221120237041090561 = 0 by decide +kernel] at h
theorem wkA_w3 : Calls Try.prog 6 #[.float .f64 9223372036854775808] w fun e w' => e = .returned (.int .i64 0) ∧ Below w.heap.size w w' := by
  have h := hP.weigh 9223372036854775808 w hT (by decide)
  rwa [show weighF 9223372036854775808 = 0 by decide +kernel] at h
theorem wkA_p {y : List UInt8} (hy : y ∈ wkL) : Calls Try.prog 9 #[.string ⟨y.toArray⟩] w fun e w' => (∃ A c, e = .returned (.tuple #[.slice A 0 c, .int .i64 220])) ∧ Below w.heap.size w w' := by
  obtain ⟨h1, h2⟩ := wkL_none y hy
  refine (hP.parse y w hT (by omega)).mono ?_
  rw [h1]
  rintro e w' ⟨⟨A, c, rfl, _⟩, hb⟩
  exact ⟨⟨A, c, rfl⟩, hb⟩
end
set_option maxRecDepth 100000 in
set_option maxHeartbeats 8000000 in
theorem worksA_any (hP : AcProg) (w : World) (hT : TabA w) : Calls Try.prog 8 #[] w (BoolR true w) := by
  unfold BoolR
  have hT' := Lib.hid hT
  have h1 := Lib.hid (fun W => wkA_q1 hP W)
  have h2 := Lib.hid (fun W => wkA_q2 hP W)
  have h3 := Lib.hid (fun W => wkA_q3 hP W)
  have hB0 := Lib.hid (Below.refl w.heap.size w)
  clear hT
  go_enter Try.func8, Try.ntmps8
  go_upto_region 2 with (go_at_call 13; (with_reducible refine Calls.mono (h1.out _ hT'.out) ?_); rintro e w1 ⟨rfl, hb⟩; have hB1 := Lib.hid (below_on hB0.out hb); have hT1 := Lib.hid (hT'.out.below hb); clear hb)
  clear h1
  go_upto_region 3 with (go_at_call 13; (with_reducible refine Calls.mono (h2.out _ hT1.out) ?_); rintro e w2 ⟨rfl, hb⟩; have hB2 := Lib.hid (below_on hB1.out hb); have hT2 := Lib.hid (hT1.out.below hb); clear hb)
  clear h2
  go_upto_region 4 with (go_at_call 13; (with_reducible refine Calls.mono (h3.out _ hT2.out) ?_); rintro e w3 ⟨rfl, hb⟩; have hB3 := Lib.hid (below_on hB2.out hb); have hT3 := Lib.hid (hT2.out.below hb); clear hb)
  clear h3 hB0 hB1 hB2 hT1 hT2
  go_upto_region 5 with (fail)
  have hkB := Has.new w3 9 (strsC wkL).toArray
  have alB := (Below.refl w3.heap.size w3).alloc (Nat.le_refl _) (.cells (strsC wkL).toArray 9)
  rw [wkL_C] at hkB alB
  obtain ⟨w4, hw4⟩ : ∃ X, w3.alloc (.cells #[.string ⟨#[116, 101, 120, 116]⟩, .string ⟨#[97, 47, 98, 59, 113, 61, 49, 46, 53]⟩, .string ⟨#[97, 47, 98, 59, 113, 61, 48, 46, 49, 50, 51, 52]⟩] 9) = X := ⟨_, rfl⟩
  rw [hw4] at hkB alB ⊢
  have hB4 := Lib.hid (below_on hB3.out alB)
  have hT4 := Lib.hid (hT3.out.below alB)
  have hk4 := Lib.hid hkB
  clear hw4 hkB alB hB3 hT3
  go_wp2
  go_loopw [8] (fun x W => ∃ k : Nat, k ≤ 3 ∧ x = .int .i64 (k : Int) ∧ Below w4.heap.size w4 W) (fun x _ => 3 - (intOf x).toNat)
  case atStart => exact ⟨0, by omega, rfl, Below.refl _ _⟩
  case round =>
    obtain ⟨k, hk, rfl, hb⟩ := hrel
    have hb' := Lib.hid hb
    have zr := hb.size
    have hTr := Lib.hid (hT4.out.below hb)
    have hBr := Lib.hid (below_on hB4.out hb)
    clear hb
    by_cases hlt : k < 3
    · have hltI : (k : Int) < 3 := by omega
      have hltL : k < wkL.length := hlt
      have ck : wr.cell? ⟨w3.heap.size, k, none⟩ = some (.string ⟨(wkL[k]'hltL).toArray⟩) := by
        have := (hk4.out.below hb'.out hk4.out.lt).cell k
        rw [← wkL_C] at this
        rw [this, List.getElem?_toArray]
        unfold strsC
        rw [List.getElem?_map, List.getElem?_eq_getElem hltL]
        rfl
      have hmem := Lib.hid (List.getElem_mem hltL)
      generalize wkL[k]'hltL = y at *
      have hp := Lib.hid (fun W hW => wkA_p hP W hW hmem.out)
      go_wp2_with (first
        | (go_at_call 9; (with_reducible refine Calls.mono (hp.out _ hTr.out) ?_); rintro e w5 ⟨⟨A5, c5, rfl⟩, hb5⟩; have hb5' := Lib.hid hb5; clear hb5)
        | (go_at_call 10; (with_reducible refine Calls.mono (numA_any _ _) ?_); rintro e w9 ⟨rfl, hw9⟩; obtain rfl := hw9.symm))
      exact ⟨⟨k + 1, by omega, by go_num, below_on hb'.out hb5'.out⟩, by simp [intOf]; omega⟩
    · obtain rfl : k = 3 := by omega
      have ht := Lib.hid (fun W => wkA_t hP W)
      have hw1 := Lib.hid (fun W => wkA_w1 hP W)
      have hw2 := Lib.hid (fun W => wkA_w2 hP W)
      have hw3 := Lib.hid (fun W => wkA_w3 hP W)
      go_wp2_with (first
        | (go_at_call 10; (with_reducible refine Calls.mono (numA_any _ _) ?_); rintro e w9 ⟨rfl, hw9⟩; obtain rfl := hw9.symm)
        | (go_at_call 14; (with_reducible refine Calls.mono (ht.out _ hTr.out) ?_); rintro e w6 ⟨rfl, hb⟩; have hB6 := Lib.hid (below_on hBr.out hb); have hT6 := Lib.hid (hTr.out.below hb); clear hb)
        | (go_at_call 6; (with_reducible refine Calls.mono (hw1.out _ hT6.out) ?_); rintro e w7 ⟨rfl, hb⟩; have hB7 := Lib.hid (below_on hB6.out hb); have hT7 := Lib.hid (hT6.out.below hb); clear hb)
        | (go_at_call 6; (with_reducible refine Calls.mono (hw2.out _ hT7.out) ?_); rintro e w8 ⟨rfl, hb⟩; have hB8 := Lib.hid (below_on hB7.out hb); have hT8 := Lib.hid (hT7.out.below hb); clear hb)
        | (go_at_call 6; (with_reducible refine Calls.mono (hw3.out _ hT8.out) ?_); rintro e w10 ⟨rfl, hb⟩; have hB10 := Lib.hid (below_on hB8.out hb); clear hb)
        | (go_at_call 15; (with_reducible refine Calls.mono (nan_any _) ?_); rintro e w9 ⟨rfl, hw9⟩; obtain rfl := hw9.symm)
        | (go_at_call 16; (with_reducible refine Calls.mono (negzero _) ?_); rintro e w9 ⟨rfl, hw9⟩; obtain rfl := hw9.symm))
      go_ret
      exact ⟨rfl, hB10.out⟩
end Go.Proofs.Ythpohjafnljfhaa
