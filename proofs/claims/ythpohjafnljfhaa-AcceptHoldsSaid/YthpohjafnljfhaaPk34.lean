import Derived.Test.YthpohjafnljfhaaPk10
import Derived.Test.YthpohjafnljfhaaPk13
import Derived.Test.YthpohjafnljfhaaPk33
import Derived.WalkLawsBesides
import Derived.WalkKit
import Derived.Deep.QuietTactic
import Derived.BigQuiet
namespace Go.Proofs.Ythpohjafnljfhaa
open Go.RowKit Lib
attribute [local go_sem] Oper.semAt_some

/-! ## The document's Weigh -/
theorem valF_zero : valF 0 = some 0 := by decide +kernel
theorem valF_one : valF 4607182418800017408 = some (wv 1000) := by decide +kernel
theorem wv_pos : (0 : Int) < wv 1000 := by have := wv_lt (m := 0) (n := 1000) (by omega) (by omega); rw [wv_zero] at this; exact this
theorem order_zero (x : Nat) : FloatKind.f64.format.order x 0 = (valF x).map (compare · 0) := by
  show Ieee.double.order x 0 = _
  rw [order_val, valF_zero]
  cases valF x <;> rfl
theorem order_one (x : Nat) : FloatKind.f64.format.order x 4607182418800017408 = (valF x).map (compare · (wv 1000)) := by
  show Ieee.double.order x _ = _
  rw [order_val, valF_one]
  cases valF x <;> rfl
theorem order_wt {x n : Nat} (h : n ≤ 1000) {v : Int} (hv : valF x = some v) : FloatKind.f64.format.order (wt n) x = some (compare (wv n) v) := by
  show Ieee.double.order _ x = _
  have e := wv_some ⟨n, by omega⟩
  rw [order_val, show valF (wt n) = some (wv n) from e, hv]
theorem thousand : floatOfInt .f64 1000 = 4652007308841189376 := by decide +kernel
theorem run_quo_wt (P : Program) (w : World) (t : TypeId) {k : Nat} (hk : k ≤ 999) : (binOp .quo t (.float .f64 (floatOfInt .f64 ((k : Int) + 1))) (.float .f64 4652007308841189376)).run P w = .ok (.float .f64 (wt (k + 1))) w := run_float_arith w .quo t .f64 _ _ _ (by
  have := wt_some ⟨k + 1, by omega⟩
  rw [thousand] at this
  exact this)
attribute [local go_sem] run_quo_wt
set_option maxRecDepth 100000 in
set_option maxHeartbeats 1000000 in
theorem refWeigh_any (x : Nat) (w : World) : Calls Try.prog 7 #[.float .f64 x] w fun e w' => e = .returned (.int .i64 (weighF x : Int)) ∧ w' = w := by
  have g0 := order_zero x
  have g1 := order_one x
  unfold weighF
  cases hv : valF x with
  | none =>
    rw [hv] at g0 g1
    simp only [Option.map_none] at g0 g1
    clear hv
    go_enter Try.func7, Try.ntmps7
    go_wp2
    go_ret
    exact ⟨rfl, rfl⟩
  | some v =>
    rw [hv] at g0 g1
    simp only [Option.map_some] at g0 g1 ⊢
    by_cases h0 : 0 < v
    · rw [Int.compare_eq_gt.2 h0] at g0
      by_cases h1 : wv 1000 ≤ v
      · have h2 : compare v (wv 1000) = .gt ∨ compare v (wv 1000) = .eq := by rw [Int.compare_eq_gt, Int.compare_eq_eq]; omega
        rw [wcount_high h1]
        clear h0 h1 hv
        rcases h2 with h2 | h2
        all_goals
          rw [h2] at g1
          clear h2
          go_enter Try.func7, Try.ntmps7
          go_wp2
          go_ret
          exact ⟨rfl, rfl⟩
      · rw [Int.compare_eq_lt.2 (show v < wv 1000 by omega)] at g1
        have hv' := Lib.hid hv
        have h0' := Lib.hid h0
        have h1' := Lib.hid h1
        clear h0 h1 hv
        go_enter Try.func7, Try.ntmps7
        go_wp2
        go_loopw [3] (fun y W => ∃ k : Nat, k ≤ 999 ∧ y = .int .i64 (k : Int) ∧ Hid (k = 0 ∨ wv k ≤ v) ∧ W = w) (fun y _ => 1000 - (intOf y).toNat)
        case atStart => exact ⟨0, by omega, rfl, Lib.hid (.inl rfl), rfl⟩
        case round =>
          obtain ⟨k, hk, rfl, hkv, rfl⟩ := hrel
          have hl := order_wt (x := x) (n := k + 1) (by omega) hv'.out
          by_cases hle : wv (k + 1) ≤ v
          · have hk1 : k + 1 ≤ 999 := by
              rcases Nat.lt_or_ge (k + 1) 1000 with h | h
              · omega
              · exfalso
                obtain rfl : k = 999 := by omega
                have h3 : v < wv (999 + 1) := h1'.out; omega
            have hn := Lib.hid (show k + 1 = 0 ∨ wv (k + 1) ≤ v from .inr hle)
            have h2 : compare (wv (k + 1)) v = .lt ∨ compare (wv (k + 1)) v = .eq := by rw [Int.compare_eq_lt, Int.compare_eq_eq]; omega
            clear hle hkv
            rcases h2 with h2 | h2
            all_goals
              rw [h2] at hl
              clear h2
              go_wp2
              exact ⟨⟨k + 1, hk1, by go_num, hn, trivial⟩, by simp [intOf]; omega⟩
          · rw [Int.compare_eq_gt.2 (show v < wv (k + 1) by omega)] at hl
            have hn := Lib.hid (show wcount v = k from wcount_of (by omega) hkv.out (.inr (by omega)))
            clear hle hkv
            go_wp2
            go_ret
            exact ⟨by rw [hn.out]; rfl, rfl⟩
    · have h2 : compare v 0 = .lt ∨ compare v 0 = .eq := by rw [Int.compare_eq_lt, Int.compare_eq_eq]; omega
      rw [wcount_low (by omega)]
      clear h0 hv g1
      rcases h2 with h2 | h2
      all_goals
        rw [h2] at g0
        clear h2
        go_enter Try.func7, Try.ntmps7
        go_wp2
        go_ret
        exact ⟨rfl, rfl⟩
end Go.Proofs.Ythpohjafnljfhaa
