import Derived.Test.YthnmphnolgmfhaaDoorTkO
import Derived.Test.YthnmphnolgmfhaaDoorTkL
import Derived.Test.YthnmphnolgmfhaaDoorTkI
namespace Go.Proofs.YthnmphnolgmfhaaDoor
open Go.RowKit
attribute [local go_sem] Oper.semAt_some

/-! ## The chapter's rows -/
theorem num_any (z : Int) (w : World) : Calls Tryd.prog 21 #[.int .i64 z] w fun e w' => e = .returned (.int .i64 z) ∧ w' = w := by
  go_enter Tryd.func21, Tryd.ntmps21
  go_wp2
  go_ret
  exact ⟨rfl, rfl⟩
theorem works_cut (w : World) : Calls Tryd.prog 22 #[.string ⟨#[97, 61, 34, 120, 59, 121, 34, 59, 98]⟩, .int .u8 59] w fun e w' => e = .returned (.tuple #[.string ⟨#[97, 61, 34, 120, 59, 121, 34]⟩, .string ⟨#[98]⟩, .bool true]) ∧ Below w.heap.size w w' := by
  have h := cut_any [97, 61, 34, 120, 59, 121, 34, 59, 98] [97, 61, 34, 120, 59, 121, 34] 59 w (by decide) (by decide) (by decide)
  unfold CutR at h
  exact h
theorem works_q1 (w : World) : Calls Tryd.prog 19 #[.string ⟨#[34, 97, 92, 34, 98, 34]⟩] w fun e w' => e = .returned (.tuple #[.string ⟨#[97, 34, 98]⟩, .int .i64 0]) ∧ Below w.heap.size w w' := by
  have h := quoted_any [34, 97, 92, 34, 98, 34] w (by decide)
  unfold QuotR at h
  rw [show quotedL [34, 97, 92, 34, 98, 34] = some [97, 34, 98] by decide] at h
  exact h
theorem works_q2 (w : World) : Calls Tryd.prog 19 #[.string ⟨#[34, 97]⟩] w fun e w' => e = .returned (.tuple #[.string ⟨#[]⟩, .int .i64 110]) ∧ Below w.heap.size w w' := by
  have h := quoted_any [34, 97] w (by decide)
  unfold QuotR at h
  rw [show quotedL [34, 97] = none by decide] at h
  exact h
theorem works_t1 (w : World) : Calls Tryd.prog 7 #[.string ⟨#[97, 45, 98]⟩] w fun e w' => e = .returned (.bool true) ∧ Below w.heap.size w w' := by
  have h := token_any [97, 45, 98] w (by decide)
  unfold BoolR at h
  rw [show tokenL [97, 45, 98] = true by decide] at h
  exact h
theorem works_t2 (w : World) : Calls Tryd.prog 7 #[.string ⟨#[97, 32, 98]⟩] w fun e w' => e = .returned (.bool false) ∧ Below w.heap.size w w' := by
  have h := token_any [97, 32, 98] w (by decide)
  unfold BoolR at h
  rw [show tokenL [97, 32, 98] = false by decide] at h
  exact h
theorem works_t3 (w : World) : Calls Tryd.prog 7 #[.string ⟨#[]⟩] w fun e w' => e = .returned (.bool false) ∧ Below w.heap.size w w' := token_any [] w (by decide)
theorem works_v1 (w : World) : Calls Tryd.prog 9 #[.string ⟨#[97, 32, 98]⟩] w fun e w' => e = .returned (.bool true) ∧ Below w.heap.size w w' := by
  have h := value_any [97, 32, 98] w (by decide)
  unfold BoolR at h
  rw [show valueL [97, 32, 98] = true by decide] at h
  exact h
theorem works_v2 (w : World) : Calls Tryd.prog 9 #[.string ⟨#[32, 97]⟩] w fun e w' => e = .returned (.bool false) ∧ Below w.heap.size w w' := by
  have h := value_any [32, 97] w (by decide)
  unfold BoolR at h
  rw [show valueL [32, 97] = false by decide] at h
  exact h
theorem works_it (w : World) (hM : MaxT w) : Calls Tryd.prog 17 #[.string ⟨#[97, 44, 32, 44, 98, 32, 44]⟩] w fun e w' => (∃ A c, e = .returned (.slice A 2 c) ∧ SL w' A [[97], [98]]) ∧ Below w.heap.size w w' := by
  refine (items_any [97, 44, 32, 44, 98, 32, 44] w (by decide) hM).mono ?_
  rintro e w' ⟨v, rfl, hv, hb⟩
  rw [show itemsL [97, 44, 32, 44, 98, 32, 44] = [[97], [98]] by decide] at hv
  obtain ⟨A, c, rfl, hs⟩ := hv.sl
  exact ⟨⟨A, c, rfl, hs⟩, hb⟩
theorem works_sl (w : World) : SL (w.alloc (.cells #[.string ⟨#[97]⟩, .string ⟨#[98]⟩] 9)) (some ⟨w.heap.size, 0, none⟩) [[97], [98]] := by
  refine ⟨w.heap.size, _, fun _ => ⟨rfl, Has.new _ _ _⟩, fun j y h => ?_⟩
  match j, h with
  | 0, h => obtain rfl : [97] = y := by simpa using h
            rfl
  | 1, h => obtain rfl : [98] = y := by simpa using h
            rfl
  | j + 2, h => simp at h
set_option maxRecDepth 100000 in
set_option maxHeartbeats 4000000 in
theorem works_any (w : World) (hM : MaxT w) : Calls Tryd.prog 6 #[] w (BoolR true w) := by
  unfold BoolR
  have hM' := Lib.hid hM
  clear hM
  go_enter Tryd.func6, Tryd.ntmps6
  go_wp2_with (first
    | (go_at_call 22; (with_reducible refine Calls.mono (works_cut _) ?_); rintro e w1 ⟨rfl, hb1⟩; have hB1 := Lib.hid hb1; clear hb1)
    | (go_at_call 19; (with_reducible refine Calls.mono (works_q1 _) ?_); rintro e w2 ⟨rfl, hb2⟩; have hB2 := Lib.hid (below_on hB1.out hb2); clear hb2)
    | (go_at_call 19; (with_reducible refine Calls.mono (works_q2 _) ?_); rintro e w3 ⟨rfl, hb3⟩; have hB3 := Lib.hid (below_on hB2.out hb3); clear hb3)
    | (go_at_call 7; (with_reducible refine Calls.mono (works_t1 _) ?_); rintro e w4 ⟨rfl, hb4⟩; have hB4 := Lib.hid (below_on hB3.out hb4); clear hb4)
    | (go_at_call 7; (with_reducible refine Calls.mono (works_t2 _) ?_); rintro e w5 ⟨rfl, hb5⟩; have hB5 := Lib.hid (below_on hB4.out hb5); clear hb5)
    | (go_at_call 7; (with_reducible refine Calls.mono (works_t3 _) ?_); rintro e w6 ⟨rfl, hb6⟩; have hB6 := Lib.hid (below_on hB5.out hb6); clear hb6)
    | (go_at_call 9; (with_reducible refine Calls.mono (works_v1 _) ?_); rintro e w7 ⟨rfl, hb7⟩; have hB7 := Lib.hid (below_on hB6.out hb7); clear hb7)
    | (go_at_call 9; (with_reducible refine Calls.mono (works_v2 _) ?_); rintro e w8 ⟨rfl, hb8⟩; have hB8 := Lib.hid (below_on hB7.out hb8); clear hb8)
    | (go_at_call 17; (with_reducible refine Calls.mono (works_it _ (hM'.out.below hB8.out)) ?_); rintro e w9 ⟨⟨A9, c9, rfl, hs9⟩, hb9⟩; have hB9 := Lib.hid ((below_on hB8.out hb9).alloc (below_on hB8.out hb9).size (.cells #[.string ⟨#[97]⟩, .string ⟨#[98]⟩] 9)); have hS9 := Lib.hid (hs9.below ((Below.refl w9.heap.size w9).alloc (Nat.le_refl _) (.cells #[.string ⟨#[97]⟩, .string ⟨#[98]⟩] 9))); clear hb9 hs9)
    | (go_at_call 16; (with_reducible refine Calls.mono (list_any _ _ c9 2 [[97], [98]] [[97], [98]] _ hS9.out (works_sl w9) (by decide) (by decide)) ?_); rintro e w10 ⟨rfl, hb10⟩; have hB10 := Lib.hid (below_on hB9.out hb10); clear hb10)
    | (go_at_call 21; (with_reducible refine Calls.mono (num_any _ _) ?_); rintro e w11 ⟨rfl, hw11⟩; obtain rfl := hw11.symm))
  go_ret
  exact ⟨rfl, hB10.out⟩
end Go.Proofs.YthnmphnolgmfhaaDoor
