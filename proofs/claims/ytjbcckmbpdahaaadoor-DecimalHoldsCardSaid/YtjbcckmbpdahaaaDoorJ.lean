import Derived.RangeFuncNested
import Derived.RangeFuncBox
import Derived.RangeFuncBound
import Derived.RangeFuncCalls
import Derived.RangeFuncLeaves
import Derived.Shelf.Abstract
import Derived.Shelf.RegionOpen
import Derived.WalkKit
import Derived.OwnWalkIn
import Derived.TacticsInMore
import Derived.LoopNIn
import Derived.LoopIn
import Derived.Lib.Hide
import Derived.Test.YtjbcckmbpdahaaaDoorH
import Derived.KernelRfl
import Derived.ScopeJumps
import Derived.WalkMore
import Derived.Laws.EntriesVeiled
import Derived.BigQuiet
import Derived.Deep.QuietTactic
namespace Go.Proofs.YtjbcckmbpdahaaaDoor
open Go.RowKit Go.Shelf
attribute [local go_sem] Oper.semAt_some
attribute [local go_sem] wide_fn wide_depth wide_round

/-! ## Texts in the order of their numbers -/
theorem sgn_less {d e : Nat} (hd : d < 10) (he : e < 10) : decide (sgn d < sgn e) = decide (d < e) ∧ (sgn d == sgn e) = decide (d = e) := by
  have : ∀ d e : Fin 10, decide (sgn d.1 < sgn e.1) = decide (d.1 < e.1) ∧ (sgn d.1 == sgn e.1) = decide (d.1 = e.1) := by decide
  exact this ⟨d, hd⟩ ⟨e, he⟩
theorem above {P r s d e : Nat} (hr : r < P) (h : d < e) : r + P * d < s + P * e := by
  have : P * (d + 1) ≤ P * e := Nat.mul_le_mul_left P h
  rw [Nat.mul_succ] at this
  omega
theorem txt_less (x y : Nat) : ∀ K, Op.bytesLess (txt 10 x K) (txt 10 y K) = decide (x % 10 ^ K < y % 10 ^ K)
  | 0 => by simp [txt, upto, Op.bytesLess, Nat.mod_one]
  | K + 1 => by
    rw [txt_succ, txt_succ]
    simp only [Op.bytesLess]
    rw [txt_less x y K]
    have hx : digAt 10 x K < 10 := Nat.mod_lt _ (by omega)
    have hy : digAt 10 y K < 10 := Nat.mod_lt _ (by omega)
    have hp : 0 < 10 ^ K := Nat.pow_pos (by omega)
    have rx : x % 10 ^ K < 10 ^ K := Nat.mod_lt _ hp
    have ry : y % 10 ^ K < 10 ^ K := Nat.mod_lt _ hp
    have ex : x % 10 ^ (K + 1) = x % 10 ^ K + 10 ^ K * digAt 10 x K := by rw [Nat.pow_succ, Nat.mod_mul]; rfl
    have ey : y % 10 ^ (K + 1) = y % 10 ^ K + 10 ^ K * digAt 10 y K := by rw [Nat.pow_succ, Nat.mod_mul]; rfl
    rw [ex, ey, (sgn_less hx hy).1, (sgn_less hx hy).2]
    generalize digAt 10 x K = d at *
    generalize digAt 10 y K = e at *
    generalize x % 10 ^ K = r at *
    generalize y % 10 ^ K = s at *
    generalize 10 ^ K = P at *
    rcases Nat.lt_trichotomy d e with h | h | h
    · have := above (s := s) rx h
      simp [h, this]
    · subst h
      simp
    · have h1 := above (s := r) ry h
      have h2 : ¬ d < e := by omega
      have h3 : ¬ d = e := by omega
      have h4 : ¬ (r + P * d < s + P * e) := by omega
      simp [h2, h3, h4]
theorem len_lt {x K : Nat} (h : IsLen 10 x K) : x < 10 ^ K := by
  have := h.2.1
  rw [Nat.div_eq_zero_iff] at this
  have : 0 < 10 ^ K := Nat.pow_pos (by omega)
  omega
theorem len_ge {x K : Nat} (h : IsLen 10 x K) (h1 : 1 < K) : 10 ^ (K - 1) ≤ x := by
  rcases h.2.2 with h2 | h2
  · omega
  · rw [Ne, Nat.div_eq_zero_iff] at h2
    have : 0 < 10 ^ (K - 1) := Nat.pow_pos (by omega)
    omega
theorem len_mono {x y K M : Nat} (hx : IsLen 10 x K) (hy : IsLen 10 y M) (h : K < M) : x < y := by
  have h1 := len_lt hx
  have h2 := len_ge hy (by have := hx.1; omega)
  have : 10 ^ K ≤ 10 ^ (M - 1) := Nat.pow_le_pow_right (by omega) (by omega)
  omega
/-- Of two numbers the greater one's text is longer, or as long and behind. -/
theorem text_order {x y K M : Nat} (hx : IsLen 10 x K) (hy : IsLen 10 y M) : decide (x < y) = (decide (K < M) || (K == M && Op.bytesLess (txt 10 x K) (txt 10 y M))) := by
  rcases Nat.lt_trichotomy K M with h | h | h
  · have := len_mono hx hy h
    simp [h, this]
  · subst h
    rw [txt_less, Nat.mod_eq_of_lt (len_lt hx), Nat.mod_eq_of_lt (len_lt hy)]
    simp
  · have h1 := len_mono hy hx h
    have h2 : ¬ x < y := by omega
    have h3 : ¬ K < M := by omega
    have h4 : ¬ K = M := by omega
    simp [h2, h3, h4]
theorem addR_comm (a b : Int) : addR b a = addR a b := by unfold addR; rw [Int.add_comm]
theorem mulR_comm (a b : Int) : mulR b a = mulR a b := by unfold mulR; rw [Int.mul_comm]

set_option maxRecDepth 100000 in
set_option maxHeartbeats 2000000 in
theorem lawHolds (x y : Nat) (hx : x < 18446744073709551616) (hy : y < 18446744073709551616) (w : World) (hT : Tab w) :
    Calls Tryd.prog 7 #[.int .u64 x, .int .u64 y] w fun e w' => e = .returned (.bool true) ∧ Below w.heap.size w w' := by
  have ha : Is64 (x : Int) := ⟨by omega, by omega⟩
  have hb : Is64 (y : Int) := ⟨by omega, by omega⟩
  have a1 := fun w => add_any x y w ha hb
  have a2 := fun w => add_any y x w hb ha
  have m1 := fun w => mul_any x y w ha hb
  have m2 := fun w => mul_any y x w hb ha
  rw [addR_comm] at a2
  rw [mulR_comm] at m2
  have hsub : (addR x y).2 = 0 → ∀ w, Calls Tryd.prog 10 #[.int .u64 (addR x y).1, .int .u64 y] w fun e w' => e = .returned (.tuple #[.int .u64 x, .int .i64 0]) ∧ w = w' := by
    intro h0 w
    have h1 : addR x y = ((x : Int) + (y : Int), 0) := by
      unfold addR at *; split at h0
      · rename_i h'; rw [if_pos h']
      · cases h0
    rw [h1]
    refine (sub_any (x + y) y w ⟨by omega, ?_⟩ hb).mono fun e w' ⟨he, hw⟩ => ⟨he.trans ?_, hw⟩
    · have := addR_64 ha hb; rw [h1] at this; exact this.2
    · have : subR (x + y) y = ((x : Int), 0) := by unfold subR; rw [if_pos (by omega)]; simp
      rw [this]; rfl
  generalize addR x y = r at a1 a2 hsub
  generalize mulR x y = t at m1 m2
  have a1' := Lib.hid a1
  have a2' := Lib.hid a2
  have m1' := Lib.hid m1
  have m2' := Lib.hid m2
  have hsub' := Lib.hid hsub
  have hx' := Lib.hid hx
  have hy' := Lib.hid hy
  clear a1 a2 m1 m2 hsub ha hb hx hy
  by_cases h0 : r.2 = 0
  all_goals
    first
      | (have h1 : (r.2 == 0) = true := by rw [beq_iff_eq]; exact h0)
      | (have h1 : (r.2 == 0) = false := by rw [beq_eq_false_iff_ne]; exact h0)
    have h0' := Lib.hid h0
    clear h0
    go_enter Tryd.func7, Tryd.ntmps7
    go_wp2_with fail
    refine (a1'.out _).mono ?_
    rintro e w' ⟨rfl, rfl⟩
    simp only [Two]
    go_wp2_with fail
    refine (a2'.out _).mono ?_
    rintro e w' ⟨rfl, rfl⟩
    simp only [Two]
    go_wp2_with fail
    refine (m1'.out _).mono ?_
    rintro e w' ⟨rfl, rfl⟩
    simp only [Two]
    go_wp2_with fail
    refine (m2'.out _).mono ?_
    rintro e w' ⟨rfl, rfl⟩
    simp only [Two]
    go_wp2_with (first | (go_at_call 21; refine (num_any _ _).mono ?_; rintro e w' ⟨rfl, rfl⟩) | (go_at_call 10; refine (hsub'.out h0'.out _).mono ?_; rintro e w' ⟨rfl, rfl⟩))
    refine (textCall_any x hx'.out _ hT).mono ?_
    rintro e w1 ⟨⟨K, hK, rfl⟩, hb1⟩
    have hT1 := hT.below hb1
    go_wp2_with fail
    refine (textCall_any y hy'.out _ hT1).mono ?_
    rintro e w2 ⟨⟨M, hM, rfl⟩, hb2⟩
    have hT2 := hT1.below hb2
    have hord := text_order hK hM
    have lK := txt_length 10 x K
    have lM := txt_length 10 y M
    have hsm : K ≤ 20 := (isLen_le (.inl rfl) hx'.out hK).2
    have hsM : M ≤ 20 := (isLen_le (.inl rfl) hy'.out hM).2
    have hord' := Lib.hid hord
    have hK' := Lib.hid hK
    have hM' := Lib.hid hM
    clear hord hK hM
    go_wp2_with (first | (go_at_call 8; refine (works_any _ hT2).mono ?_; rintro e w9 ⟨rfl, hb9⟩))
    · go_ret
      exact ⟨rfl, below_on (below_on hb1 hb2) (by assumption)⟩
    · rename_i h2 h3 h4
      exfalso
      obtain rfl : K = M := by omega
      exact h4 (by have := hord'.out; simpa using this)
    · go_ret
      exact ⟨rfl, below_on (below_on hb1 hb2) (by assumption)⟩
    · rename_i h2 h3 h4
      exfalso
      have h5 : (K == M) = false := by rw [beq_eq_false_iff_ne]; omega
      exact h4 (by have := hord'.out; simpa [h5] using this)
    · go_ret
      exact ⟨rfl, below_on (below_on hb1 hb2) (by assumption)⟩
    · rename_i h2 h3
      exfalso
      have h5 : K < M := by omega
      exact h3 (by have := hord'.out; simpa [h5] using this)
end Go.Proofs.YtjbcckmbpdahaaaDoor
