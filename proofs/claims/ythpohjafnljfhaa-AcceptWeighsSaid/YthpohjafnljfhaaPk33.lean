import Derived.Laws.FloatArith
import Derived.KernelRfl
namespace Go.Proofs.Ythpohjafnljfhaa
open Go

/-! ## Numbers of 64 bits, held against each other; thousandths (of no layer) -/
/-- What a word is worth, in units of 2 to the -1074; none: it is no number. -/
def valF (x : Nat) : Option Int := match Ieee.double.read x with
  | .number s m i => some (Ieee.signed s m (i + 1074).toNat)
  | .infinity s => some (if s = true then -(2 ^ 3000 : Nat) else (2 ^ 3000 : Nat))
  | .nan .. => none
theorem signed_add (s : Bool) (m u d : Nat) : Ieee.signed s m (u + d) = Ieee.signed s m u * (2 ^ d : Nat) := by
  unfold Ieee.signed
  rw [Nat.shiftLeft_eq, Nat.shiftLeft_eq, Nat.pow_add, ← Nat.mul_assoc]
  cases s
  · simp
  · simp [Int.neg_mul]
theorem compare_mul (a b : Int) (d : Nat) (hd : 0 < d) : compare (a * (d : Int)) (b * (d : Int)) = compare a b := by
  have h : (0 : Int) < (d : Int) := by omega
  rcases Int.lt_trichotomy a b with h1 | h1 | h1
  · rw [Int.compare_eq_lt.2 h1, Int.compare_eq_lt.2 (Int.mul_lt_mul_of_pos_right h1 h)]
  · subst h1; simp
  · rw [Int.compare_eq_gt.2 h1, Int.compare_eq_gt.2 (Int.mul_lt_mul_of_pos_right h1 h)]
theorem read_parts {x : Nat} {s : Bool} {m : Nat} {i : Int} (h : Ieee.double.read x = .number s m i) : -1074 ≤ i ∧ i ≤ 1000 ∧ m < 2 ^ 53 := by
  unfold Ieee.Format.read at h
  have e1 : Ieee.double.leastPlace = -1074 := by decide
  have e2 : Ieee.double.binade = 2 ^ 52 := by decide
  have e3 : Ieee.double.infRung = 2047 * 2 ^ 52 := by decide
  rw [e1, e2, e3] at h
  simp only at h
  generalize x % Ieee.double.signWeight = r at h
  split at h
  · rename_i hr
    injection h with _ h1 h2
    subst h1; subst h2
    exact ⟨Int.le_refl _, by decide, by omega⟩
  · split at h
    · rename_i hr
      injection h with _ h1 h2
      subst h1; subst h2
      have : r % 2 ^ 52 < 2 ^ 52 := Nat.mod_lt _ (Nat.two_pow_pos _)
      have h3 : r / 2 ^ 52 < 2047 := Nat.div_lt_of_lt_mul (by omega)
      refine ⟨by omega, by omega, by omega⟩
    · split at h <;> cases h
set_option exponentiation.threshold 4000 in
theorem signed_small {s : Bool} {m : Nat} {i : Int} (h : -1074 ≤ i ∧ i ≤ 1000 ∧ m < 2 ^ 53) : -(2 ^ 3000 : Nat) < Ieee.signed s m (i + 1074).toNat ∧ Ieee.signed s m (i + 1074).toNat < (2 ^ 3000 : Nat) := by
  obtain ⟨h1, h2, h3⟩ := h
  have hb : m <<< (i + 1074).toNat < 2 ^ 3000 := by
    rw [Nat.shiftLeft_eq]
    have a : 2 ^ (i + 1074).toNat ≤ 2 ^ 2074 := Nat.pow_le_pow_right (by decide) (by omega)
    calc m * 2 ^ (i + 1074).toNat < 2 ^ 53 * 2 ^ (i + 1074).toNat := Nat.mul_lt_mul_of_pos_right h3 (Nat.two_pow_pos _)
      _ ≤ 2 ^ 53 * 2 ^ 2074 := Nat.mul_le_mul_left _ a
      _ ≤ 2 ^ 3000 := by rw [← Nat.pow_add]; exact Nat.pow_le_pow_right (by decide) (by decide)
  unfold Ieee.signed
  generalize m <<< (i + 1074).toNat = z at hb
  generalize (2 ^ 3000 : Nat) = B at hb ⊢
  split <;> omega
theorem order_val (x y : Nat) : Ieee.double.order x y = match valF x, valF y with
    | some a, some b => some (compare a b)
    | _, _ => none := by
  unfold Ieee.Format.order valF
  cases hx : Ieee.double.read x with
  | nan s t => cases Ieee.double.read y <;> rfl
  | infinity s =>
    cases hy : Ieee.double.read y with
    | nan t u => rfl
    | infinity t =>
      have h : (0 : Int) < (2 ^ 3000 : Nat) := by have := Nat.two_pow_pos 3000; omega
      simp only [Ieee.Datum.order]
      generalize (2 ^ 3000 : Nat) = B at h
      congr 1
      cases s <;> cases t
      · exact (Int.compare_eq_eq.2 rfl).symm
      · exact (Int.compare_eq_gt.2 (show -(B : Int) < (B : Int) by omega)).symm
      · exact (Int.compare_eq_lt.2 (show -(B : Int) < (B : Int) by omega)).symm
      · exact (Int.compare_eq_eq.2 rfl).symm
    | number t n j =>
      have h := signed_small (s := t) (read_parts hy)
      simp only [Ieee.Datum.order]
      congr 1
      cases s
      · exact (Int.compare_eq_gt.2 h.2).symm
      · exact (Int.compare_eq_lt.2 h.1).symm
  | number s m i =>
    cases hy : Ieee.double.read y with
    | nan t u => rfl
    | infinity t =>
      have h := signed_small (s := s) (read_parts hx)
      simp only [Ieee.Datum.order]
      congr 1
      cases t
      · exact (Int.compare_eq_lt.2 h.2).symm
      · exact (Int.compare_eq_gt.2 h.1).symm
    | number t n j =>
      have h1 := (read_parts hx).1
      have h2 := (read_parts hy).1
      simp only [Ieee.Datum.order]
      congr 1
      have e1 : (i + 1074).toNat = (i - min i j).toNat + (min i j + 1074).toNat := by omega
      have e2 : (j + 1074).toNat = (j - min i j).toNat + (min i j + 1074).toNat := by omega
      rw [e1, e2, signed_add, signed_add, compare_mul _ _ _ (Nat.two_pow_pos _)]
/-- A number of thousandths, as a word. -/
def wt (n : Nat) : Nat := (floatBits .quo .f64 (floatOfInt .f64 (n : Int)) (floatOfInt .f64 1000)).getD 0
def wv (n : Nat) : Int := (valF (wt n)).getD 0
theorem wt_some : ∀ n : Fin 1001, floatBits .quo .f64 (floatOfInt .f64 (n.1 : Int)) (floatOfInt .f64 1000) = some (wt n.1) := by decide +kernel
theorem wv_some : ∀ n : Fin 1001, valF (wt n.1) = some (wv n.1) := by decide +kernel
theorem wv_zero : wv 0 = 0 := by decide +kernel
theorem wv_step : ∀ n : Fin 1000, wv n.1 < wv (n.1 + 1) := by decide +kernel
theorem wv_lt {m n : Nat} (h : m < n) (hn : n ≤ 1000) : wv m < wv n := by
  induction n with
  | zero => omega
  | succ k ih =>
    have hs := wv_step ⟨k, by omega⟩
    rcases Nat.lt_or_ge m k with h1 | h1
    · exact Int.lt_trans (ih h1 (by omega)) hs
    · obtain rfl : m = k := by omega
      exact hs
/-- How many thousandths. -/
def wcount (v : Int) : Nat := ((List.range 1000).filter fun n => decide (wv (n + 1) ≤ v)).length
theorem wcount_le (v : Int) : wcount v ≤ 1000 := by
  have := List.length_filter_le (fun n => decide (wv (n + 1) ≤ v)) (List.range 1000)
  rw [List.length_range] at this
  exact this
theorem range_lt (k : Nat) : ∀ n : Nat, k ≤ n → ((List.range n).filter fun i => decide (i < k)).length = k
  | 0, h => by
    obtain rfl : k = 0 := by omega
    rfl
  | n + 1, h => by
    rw [List.range_succ, List.filter_append, List.length_append]
    rcases Nat.lt_or_ge n k with h1 | h1
    · obtain rfl : k = n + 1 := by omega
      have e : ((List.range n).filter fun i => decide (i < n + 1)) = List.range n := List.filter_eq_self.2 (fun x hx => decide_eq_true (by have := List.mem_range.1 hx; omega))
      rw [e]
      simp
    · rw [range_lt k n h1]
      have : ¬ n < k := by omega
      simp [this]
theorem wcount_of {v : Int} {k : Nat} (hk : k ≤ 1000) (h1 : k = 0 ∨ wv k ≤ v) (h2 : k = 1000 ∨ v < wv (k + 1)) : wcount v = k := by
  unfold wcount
  have : ((List.range 1000).filter fun n => decide (wv (n + 1) ≤ v)) = (List.range 1000).filter fun n => decide (n < k) := by
    apply List.filter_congr
    intro n hn
    have hn := List.mem_range.1 hn
    rw [decide_eq_decide]
    constructor
    · intro h
      rcases h2 with h2 | h2
      · omega
      · rcases Nat.lt_or_ge n k with h3 | h3
        · exact h3
        · exfalso
          rcases Nat.eq_or_lt_of_le h3 with h4 | h4
          · subst h4; omega
          · have := wv_lt (m := k + 1) (n := n + 1) (by omega) (by omega)
            omega
    · intro h
      rcases h1 with h1 | h1
      · omega
      · rcases Nat.eq_or_lt_of_le (show n + 1 ≤ k from h) with h3 | h3
        · rw [h3]; exact h1
        · have := wv_lt h3 hk
          omega
  rw [this, range_lt k 1000 hk]
theorem wcount_mono {v u : Int} (h : v ≤ u) : wcount v ≤ wcount u := by
  unfold wcount
  rw [← List.countP_eq_length_filter, ← List.countP_eq_length_filter]
  exact List.countP_mono_left (fun n _ hn => decide_eq_true (Int.le_trans (of_decide_eq_true hn) h))
theorem wcount_low {v : Int} (h : v ≤ 0) : wcount v = 0 := wcount_of (by omega) (.inl rfl) (.inr (show v < wv 1 by have := wv_lt (m := 0) (n := 1) (by omega) (by omega); rw [wv_zero] at this; omega))
theorem wcount_high {v : Int} (h : wv 1000 ≤ v) : wcount v = 1000 := wcount_of (by omega) (.inr h) (.inl rfl)
theorem wcount_at {k : Nat} (hk : k ≤ 1000) : wcount (wv k) = k := wcount_of hk (.inr (Int.le_refl _)) (by
  rcases Nat.eq_or_lt_of_le hk with h | h
  · exact .inl h
  · exact .inr (wv_lt (by omega) h))
/-- The quality of a word. -/
def weighF (x : Nat) : Nat := match valF x with
  | none => 0
  | some v => wcount v
theorem weighF_le (x : Nat) : weighF x ≤ 1000 := by
  unfold weighF
  split
  · omega
  · exact wcount_le _
theorem weighF_at {k : Nat} (hk : k ≤ 1000) : weighF (wt k) = k := by
  unfold weighF
  rw [wv_some ⟨k, by omega⟩]
  exact wcount_at hk
/-- x ≤ y, as numbers. -/
def leF (x y : Nat) : Bool := Ieee.double.order x y == some .lt || Ieee.double.order x y == some .eq
theorem leF_val {x y : Nat} : leF x y = true ↔ ∃ a b, valF x = some a ∧ valF y = some b ∧ a ≤ b := by
  unfold leF
  rw [order_val]
  cases valF x with
  | none => simp
  | some a =>
    cases valF y with
    | none => simp
    | some b =>
      simp only [Bool.or_eq_true, beq_iff_eq, Option.some.injEq]
      constructor
      · rintro (h | h)
        · exact ⟨a, b, rfl, rfl, Int.le_of_lt (Int.compare_eq_lt.1 h)⟩
        · exact ⟨a, b, rfl, rfl, by rw [Int.compare_eq_eq.1 h]; exact Int.le_refl _⟩
      · rintro ⟨a', b', rfl, rfl, h⟩
        rcases Int.lt_or_eq_of_le h with h | h
        · exact .inl (Int.compare_eq_lt.2 h)
        · exact .inr (Int.compare_eq_eq.2 h)
theorem weighF_mono {x y : Nat} (h : leF x y = true) : weighF x ≤ weighF y := by
  obtain ⟨a, b, h1, h2, h3⟩ := leF_val.1 h
  unfold weighF
  rw [h1, h2]
  exact wcount_mono h3
end Go.Proofs.Ythpohjafnljfhaa
