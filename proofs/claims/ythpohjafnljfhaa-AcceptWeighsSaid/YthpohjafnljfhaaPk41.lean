import Derived.Test.YthpohjafnljfhaaPk35
import Derived.Shelf.Abstract
namespace Go.Proofs.Ythpohjafnljfhaa
open Go.RowKit Go.Shelf
attribute [local go_sem] Oper.semAt_some run_quo_wt

/-! ## The quality of a number -/
/-- Is it at so many thousandths, and one more? -/
def leW (x k : Nat) : Bool := match valF x with
  | none => false
  | some v => decide (wv (k + 1) ≤ v)
theorem leW_down {x a b : Nat} (h : a ≤ b) (hb : b ≤ 999) (hl : leW x b = true) : leW x a = true := by
  unfold leW at hl ⊢
  cases hv : valF x with
  | none => rw [hv] at hl; cases hl
  | some v =>
    rw [hv] at hl
    simp only [decide_eq_true_eq] at hl ⊢
    rcases Nat.lt_or_ge a b with h1 | h1
    · exact Int.le_trans (Int.le_of_lt (wv_lt (by omega) (by omega))) hl
    · obtain rfl : a = b := by omega
      exact hl
theorem weigh_of {x i : Nat} (hi : i ≤ 1000) (h1 : ∀ t, t < i → leW x t = true) (h2 : ∀ t, i ≤ t → t < 1000 → leW x t = false) : weighF x = i := by
  unfold weighF
  cases hv : valF x with
  | none =>
    cases i with
    | zero => rfl
    | succ i =>
      have := h1 i (by omega)
      unfold leW at this
      rw [hv] at this
      cases this
  | some v =>
    simp only
    refine wcount_of hi ?_ ?_
    · cases i with
      | zero => exact .inl rfl
      | succ i =>
        have := h1 i (by omega)
        unfold leW at this
        rw [hv] at this
        exact .inr (of_decide_eq_true this)
    · rcases Nat.lt_or_ge i 1000 with h | h
      · have := h2 i (Nat.le_refl _) h
        unfold leW at this
        rw [hv] at this
        have := of_decide_eq_false this
        exact .inr (by omega)
      · exact .inl (by omega)
theorem order_none {x n : Nat} (hv : valF x = none) : FloatKind.f64.format.order (wt n) x = none := by
  show Ieee.double.order _ x = _
  rw [order_val, hv]
  cases valF (wt n) <;> rfl
set_option maxRecDepth 100000 in
theorem weigh1_any (k x qb : Nat) (hk : k ≤ 999) (w : World) (hq : Has w qb 23 #[.float .f64 x]) : Calls Try.prog 12 #[.int .i64 (k : Int), .pointer (some ⟨qb, 0, none⟩)] w fun e w' => e = .returned (.bool (!(leW x k))) ∧ w' = w := by
  have c0 := hq.cell 0
  clear hq
  unfold leW
  cases hv : valF x with
  | none =>
    have hl := order_none (n := k + 1) hv
    clear hv
    go_enter Try.func12, Try.ntmps12
    go_wp2
    go_ret
    exact ⟨rfl, rfl⟩
  | some v =>
    have hl := order_wt (x := x) (n := k + 1) (by omega) hv
    clear hv
    simp only
    by_cases h : wv (k + 1) ≤ v
    · have h2 : compare (wv (k + 1)) v = .lt ∨ compare (wv (k + 1)) v = .eq := by rw [Int.compare_eq_lt, Int.compare_eq_eq]; omega
      rw [decide_eq_true h]
      clear h
      rcases h2 with h2 | h2
      all_goals
        rw [h2] at hl
        clear h2
        go_enter Try.func12, Try.ntmps12
        go_wp2
        go_ret
        exact ⟨rfl, rfl⟩
    · rw [decide_eq_false h]
      rw [Int.compare_eq_gt.2 (show v < wv (k + 1) by omega)] at hl
      clear h
      go_enter Try.func12, Try.ntmps12
      go_wp2
      go_ret
      exact ⟨rfl, rfl⟩
set_option maxRecDepth 100000 in
set_option maxHeartbeats 2000000 in
theorem search_any (x qb : Nat) (w : World) (hq : Has w qb 23 #[.float .f64 x]) : Calls Try.prog 11 #[.int .i64 1000, .func (.func 12) #[] #[.pointer (some ⟨qb, 0, none⟩)]] w fun e w' => e = .returned (.int .i64 (weighF x : Int)) ∧ w' = w := by
  have h1 := Lib.hid (fun k hk => weigh1_any k x qb hk w hq)
  have hen := enters_of (P := Try.prog) Try.func12 (by kernel_rfl) rfl
  clear hq
  go_enter Try.func11, Try.ntmps11
  go_wp2
  go_loopw [5, 6, 7] (fun y z _ W => ∃ i j : Nat, i ≤ j ∧ j ≤ 1000 ∧ y = .int .i64 (i : Int) ∧ z = .int .i64 (j : Int) ∧ Hid (∀ t, t < i → leW x t = true) ∧ Hid (∀ t, j ≤ t → t < 1000 → leW x t = false) ∧ W = w) (fun y z _ _ => (intOf z).toNat - (intOf y).toNat)
  case atStart => exact ⟨0, 1000, by omega, by omega, rfl, rfl, Lib.hid (fun t h => by omega), Lib.hid (fun t h h' => by omega), rfl⟩
  case round =>
    obtain ⟨i, j, hij, hj, rfl, rfl, ha, hb, rfl⟩ := hrel
    by_cases hlt : i < j
    · have hltI : (i : Int) < (j : Int) := by omega
      obtain ⟨m, hm⟩ : ∃ m, (i + j) / 2 = m := ⟨_, rfl⟩
      have hmI : ((i : Int) + (j : Int)) / 2 = (m : Int) := by omega
      have hq1 := h1.out m (by omega)
      cases hl : leW x m with
      | true =>
        have ha' := Lib.hid (show ∀ t, t < m + 1 → leW x t = true from fun t ht => leW_down (by omega) (by omega) hl)
        rw [hl] at hq1
        have hq1' := Lib.hid hq1
        clear hq1 hl
        go_wp2_with (go_at_call 12; (with_reducible refine Calls.mono hq1'.out ?_); rintro e w3 ⟨rfl, hw3⟩; obtain rfl := hw3.symm)
        exact ⟨⟨m + 1, j, by omega, hj, by go_num, rfl, ha', hb, trivial⟩, by simp [intOf]; omega⟩
      | false =>
        have hb' := Lib.hid (show ∀ t, m ≤ t → t < 1000 → leW x t = false from fun t ht h' => by
          cases hc : leW x t with
          | false => rfl
          | true => rw [leW_down ht (by omega) hc] at hl; cases hl)
        rw [hl] at hq1
        have hq1' := Lib.hid hq1
        clear hq1 hl
        go_wp2_with (go_at_call 12; (with_reducible refine Calls.mono hq1'.out ?_); rintro e w3 ⟨rfl, hw3⟩; obtain rfl := hw3.symm)
        exact ⟨⟨i, m, by omega, by omega, rfl, rfl, ha, hb', trivial⟩, by simp [intOf]; omega⟩
    · obtain rfl : i = j := by omega
      have hw := Lib.hid (weigh_of hj ha.out hb.out)
      clear ha hb
      go_wp2
      go_ret
      exact ⟨by rw [hw.out]; rfl, rfl⟩
set_option maxRecDepth 100000 in
theorem weighA_any (x : Nat) (w : World) : Calls Try.prog 6 #[.float .f64 x] w fun e w' => e = .returned (.int .i64 (weighF x : Int)) ∧ Below w.heap.size w w' := by
  obtain ⟨wa, hwa⟩ : ∃ wa, w.alloc (.cells #[.float .f64 x] 23) = wa := ⟨_, rfl⟩
  have hBa : Below w.heap.size w wa := by rw [← hwa]; exact (Below.refl _ _).alloc (Nat.le_refl _) _
  have za : Has wa w.heap.size 23 #[.float .f64 x] := by rw [← hwa]; exact Has.new _ _ _
  have h1 := Lib.hid (search_any x w.heap.size wa za)
  have hBa' := Lib.hid hBa
  clear hBa za
  go_enter Try.func6, Try.ntmps6
  go_wp2_with (go_at_call 11; (with_reducible refine Calls.mono h1.out ?_); rintro e w3 ⟨rfl, hw3⟩; obtain rfl := hw3.symm)
  go_ret
  exact ⟨rfl, hBa'.out⟩
end Go.Proofs.Ythpohjafnljfhaa
