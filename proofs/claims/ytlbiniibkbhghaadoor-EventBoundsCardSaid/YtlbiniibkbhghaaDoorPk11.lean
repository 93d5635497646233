import Derived.RangeFuncNested
import Derived.RangeFuncBox
import Derived.RangeFuncBound
import Derived.RangeFuncCalls
import Derived.RangeFuncLeaves
import Derived.Shelf.Abstract
import Derived.Shelf.RegionOpen
import Derived.WalkKit
import Derived.OwnWalkIn
import Derived.TacticsInMore
import Derived.LoopNIn
import Derived.LoopIn
import Derived.Lib.Hide
import Derived.Test.YtlbiniibkbhghaaDoorPk3
import Derived.ScopeJumps
import Derived.WalkMore
import Derived.Laws.EntriesVeiled
import Derived.BigQuiet
import Derived.Deep.QuietTactic
import Derived.KernelRfl
import Derived.Test.YtlbiniibkbhghaaDoorPk10
import Derived.Deep.RegionHeld3
namespace Go.Proofs.YtlbiniibkbhghaaDoor
open Go.RowKit Go.Shelf
attribute [local go_sem] Oper.semAt_some
attribute [local go_sem] wide_fn wide_depth wide_round

/-! ## Parse -/
theorem numR_110 {l : List UInt8} (h : (numR 10 l).2 = 110) : numR 10 l = (0, 110) := by
  unfold numR at *
  split at h
  · exfalso
    have key : ∀ (l : List UInt8) (r : Int × Int), (r.2 = 0 ∨ r.2 = 111) → (l.foldl (fun r c => step 10 r (c.toNat : Int)) r).2 = 0 ∨ (l.foldl (fun r c => step 10 r (c.toNat : Int)) r).2 = 111 := by
      intro l
      induction l with
      | nil => intro r h; exact h
      | cons c l ih =>
        intro r h
        refine ih _ ?_
        by_cases hz : r.2 = 0
        · show (step 10 r (c.toNat : Int)).2 = 0 ∨ (step 10 r (c.toNat : Int)).2 = 111
          rw [step_go hz]
          unfold moreR
          split
          · by_cases ha : (addR (mulR r.1 10).1 (worth (c.toNat : Int))).2 = 0
            · exact .inl ha
            · exact .inr (by rw [err_add ha])
          · rename_i hm
            exact .inr (by rw [err_mul hm])
        · show (step 10 r (c.toNat : Int)).2 = 0 ∨ (step 10 r (c.toNat : Int)).2 = 111
          rw [step_stay hz]; exact h
    rcases key l (0, 0) (.inl rfl) with h' | h' <;> (unfold goesR at h; rw [h'] at h; cases h)
  · rename_i h'
    rw [if_neg h']
theorem padB_at (s : ByteArray) (h1 : (1 : Int) < s.size) (h2 : 0 < s.size) : padB s.data.toList = ((s[0].toNat : Int) == 48) := by
  unfold padB
  have e : s.data.toList[0]? = some s[0] := by
    rw [Array.getElem?_toList]
    exact Array.getElem?_eq_getElem (show 0 < s.data.size from h2)
  have e2 : ((s[0].toNat : Int) == 48) = (s[0] == 48) := by
    rw [Bool.eq_iff_iff, beq_iff_eq, beq_iff_eq, ← UInt8.toNat_inj]
    constructor
    · intro h; simp; omega
    · intro h; rw [h]; rfl
  have h3 : decide (1 < s.data.toList.length) = true := by
    have : s.data.toList.length = s.size := by simp only [Array.length_toList]; rfl
    rw [decide_eq_true_eq]; omega
  rw [e, e2, h3]
  rfl
theorem padB_no (s : ByteArray) (h1 : (s.size : Int) ≤ 1) : padB s.data.toList = false := by
  unfold padB
  have h3 : decide (1 < s.data.toList.length) = false := by
    have : s.data.toList.length = s.size := by simp only [Array.length_toList]; rfl
    rw [decide_eq_false_iff_not]; omega
  rw [h3]
  rfl
section
set_option maxHeartbeats 400000
theorem refParse_any (s : ByteArray) (hm : s.size ≤ 9223372036854775807) (w : World) :
    Calls Tryd.prog 20 #[.string s] w fun e w' => e = Two (parseR s.data.toList) ∧ w = w' := by
  have hc := fun w => refDigits_any s hm w
  have hp : parseR s.data.toList = if padB s.data.toList = true then (0, 110) else numR 10 s.data.toList := rfl
  have h110 := @numR_110 s.data.toList
  generalize numR 10 s.data.toList = r at hc hp h110
  have hc' := Lib.hid hc
  have hp' := Lib.hid hp
  have h110' := Lib.hid h110
  clear hc hp h110
  go_enter Tryd.func20, Tryd.ntmps20
  go_wp2_with (go_at_call 21; refine (hc'.out _).mono ?_; rintro e w' ⟨rfl, rfl⟩; simp only [Two])
  · rename_i h
    go_ret2
    refine ⟨two_of ?_, rfl⟩
    rw [hp'.out]
    split
    · rfl
    · rw [h110'.out h]
      
  · rename_i h h1 h2 h3
    have h4 : (s[0].toNat : Int) = 48 := by
      rcases h3 with h3 | h3
      · exact absurd (beq_iff_eq.1 h3) h
      · exact beq_iff_eq.1 h3
    go_ret2
    refine ⟨two_of ?_, rfl⟩
    rw [hp'.out, padB_at s h1 h2, if_pos (beq_iff_eq.2 h4)]
  · rename_i h h1 h2 h3
    go_ret2
    refine ⟨two_of ?_, rfl⟩
    rw [hp'.out, padB_at s h1 h2, h3.2]
    rfl
  · rename_i h h1 h2
    go_ret2
    refine ⟨two_of ?_, rfl⟩
    rw [hp'.out, padB_no s h2]
    rfl
end
/-! ## Sums -/
def sumStep (r : Int × Int) (z : Int) : Int × Int := if r.2 = 0 then addR r.1 z else r
def sumR (l : List Int) : Int × Int := l.foldl sumStep (0, 0)
theorem sumR_take (l : List Int) {k : Nat} (hk : k < l.length) : sumR (l.take (k + 1)) = sumStep (sumR (l.take k)) l[k] := by
  rw [List.take_succ_eq_append_getElem hk]; unfold sumR; rw [List.foldl_append]; rfl
theorem sumR_stuck (l : List Int) (k : Nat) (h : ¬ (sumR (l.take k)).2 = 0) : sumR l = sumR (l.take k) := by
  have key : ∀ (l' : List Int) (r : Int × Int), ¬ r.2 = 0 → l'.foldl sumStep r = r := by
    intro l'
    induction l' with
    | nil => intro r _; rfl
    | cons c l' ih => intro r hr; simp only [List.foldl_cons]; rw [show sumStep r c = r from if_neg hr]; exact ih r hr
  have e : sumR l = (l.drop k).foldl sumStep (sumR (l.take k)) := by
    unfold sumR
    rw [← List.foldl_append, List.take_append_drop]
  rw [e]
  exact key _ _ h
theorem sumR_64 (l : List Int) (h : ∀ z ∈ l, Is64 z) : Is64 (sumR l).1 := by
  have : ∀ (l : List Int) (r : Int × Int), (∀ z ∈ l, Is64 z) → Is64 r.1 → Is64 (l.foldl sumStep r).1 := by
    intro l
    induction l with
    | nil => intro r _ h; exact h
    | cons c l ih =>
      intro r hl h
      refine ih _ (fun z hz => hl z (List.mem_cons_of_mem _ hz)) ?_
      unfold sumStep
      split
      · exact addR_64 h (hl c List.mem_cons_self)
      · exact h
  exact this l _ h ⟨by simp, by simp⟩
/-- The slice's cells are these numbers. -/
def Nums (W : World) (A : Option Addr) (zs : List Int) : Prop := (∀ z ∈ zs, Is64 z) ∧ zs.length ≤ 9223372036854775807 ∧ ∀ k (h : k < zs.length), ∃ b off, A = some ⟨b, off, none⟩ ∧ W.cell? ⟨b, off + k, none⟩ = some (.int .u64 zs[k])
def SumRel (zs : List Int) (i n : Value) : Prop := ∃ k : Nat, k ≤ zs.length ∧ i = .int .i64 k ∧ n = .int .u64 (sumR (zs.take k)).1 ∧ (sumR (zs.take k)).2 = 0

end Go.Proofs.YtlbiniibkbhghaaDoor

namespace Go.Proofs.YtlbiniibkbhghaaDoor
open Go.RowKit Go.Shelf
attribute [local go_sem] Oper.semAt_some
attribute [local go_sem] wide_fn wide_depth wide_round

/-! ## The chapter's rows -/
theorem num_any (e : Int) (w : World) : Calls Tryd.prog 19 #[.int .i64 e] w fun r w' => r = .returned (.int .i64 e) ∧ w = w' := by
  go_enter Tryd.func19, Tryd.ntmps19
  go_wp2
  go_ret
  exact ⟨rfl, rfl⟩
theorem k_add (w : World) : Calls Tryd.prog 45 #[.int .u64 18446744073709551615, .int .u64 1] w fun e w' => e = .returned (.tuple #[.int .u64 0, .int .i64 111]) ∧ w = w' :=
  (add_any 18446744073709551615 1 w ⟨by omega, by omega⟩ ⟨by omega, by omega⟩).mono fun e w' ⟨h, h'⟩ => ⟨h.trans (by kernel_rfl), h'⟩
theorem k_sub (w : World) : Calls Tryd.prog 46 #[.int .u64 1, .int .u64 2] w fun e w' => e = .returned (.tuple #[.int .u64 0, .int .i64 112]) ∧ w = w' :=
  (sub_any 1 2 w ⟨by omega, by omega⟩ ⟨by omega, by omega⟩).mono fun e w' ⟨h, h'⟩ => ⟨h.trans (by kernel_rfl), h'⟩
theorem k_mul (w : World) : Calls Tryd.prog 47 #[.int .u64 4294967296, .int .u64 4294967296] w fun e w' => e = .returned (.tuple #[.int .u64 0, .int .i64 111]) ∧ w = w' :=
  (mul_any 4294967296 4294967296 w ⟨by omega, by omega⟩ ⟨by omega, by omega⟩).mono fun e w' ⟨h, h'⟩ => ⟨h.trans (by kernel_rfl), h'⟩
theorem k_next1 (w : World) : Calls Tryd.prog 48 #[.int .u64 9, .int .u64 10] w fun e w' => e = .returned (.tuple #[.int .u64 10, .int .i64 0]) ∧ w = w' :=
  (next_any 9 10 w ⟨by omega, by omega⟩ ⟨by omega, by omega⟩).mono fun e w' ⟨h, h'⟩ => ⟨h.trans (by kernel_rfl), h'⟩
theorem k_next2 (w : World) : Calls Tryd.prog 48 #[.int .u64 10, .int .u64 10] w fun e w' => e = .returned (.tuple #[.int .u64 0, .int .i64 111]) ∧ w = w' :=
  (next_any 10 10 w ⟨by omega, by omega⟩ ⟨by omega, by omega⟩).mono fun e w' ⟨h, h'⟩ => ⟨h.trans (by kernel_rfl), h'⟩
theorem k_clamp1 (w : World) : Calls Tryd.prog 49 #[.int .u64 5, .int .u64 7, .int .u64 9] w fun e w' => e = .returned (.tuple #[.int .u64 7, .int .i64 0]) ∧ w = w' :=
  (clamp_any 5 7 9 w ⟨by omega, by omega⟩ ⟨by omega, by omega⟩ ⟨by omega, by omega⟩).mono fun e w' ⟨h, h'⟩ => ⟨h.trans (by kernel_rfl), h'⟩
theorem k_clamp2 (w : World) : Calls Tryd.prog 49 #[.int .u64 5, .int .u64 9, .int .u64 7] w fun e w' => e = .returned (.tuple #[.int .u64 0, .int .i64 2]) ∧ w = w' :=
  (clamp_any 5 9 7 w ⟨by omega, by omega⟩ ⟨by omega, by omega⟩ ⟨by omega, by omega⟩).mono fun e w' ⟨h, h'⟩ => ⟨h.trans (by kernel_rfl), h'⟩
theorem k_parse1 (w : World) (hT : Tab w) : Calls Tryd.prog 12 #[.string ⟨#[48, 48, 55]⟩] w fun e w' => e = .returned (.tuple #[.int .u64 0, .int .i64 110]) ∧ Below w.heap.size w w' :=
  (parseCall_any ⟨#[48, 48, 55]⟩ (show (⟨#[48, 48, 55]⟩ : ByteArray).size ≤ 9223372036854775807 by decide) w hT).mono fun e w' ⟨h, h'⟩ => ⟨h.trans (by kernel_rfl), h'⟩
theorem k_digits (w : World) (hT : Tab w) : Calls Tryd.prog 14 #[.string ⟨#[48, 48, 55]⟩] w fun e w' => e = .returned (.tuple #[.int .u64 7, .int .i64 0]) ∧ Below w.heap.size w w' :=
  (digitsCall_any ⟨#[48, 48, 55]⟩ (show (⟨#[48, 48, 55]⟩ : ByteArray).size ≤ 9223372036854775807 by decide) w hT).mono fun e w' ⟨h, h'⟩ => ⟨h.trans (by kernel_rfl), h'⟩
theorem k_hex (w : World) (hT : Tab w) : Calls Tryd.prog 13 #[.string ⟨#[49, 97, 70]⟩] w fun e w' => e = .returned (.tuple #[.int .u64 431, .int .i64 0]) ∧ Below w.heap.size w w' :=
  (hexDigitsCall_any ⟨#[49, 97, 70]⟩ (show (⟨#[49, 97, 70]⟩ : ByteArray).size ≤ 9223372036854775807 by decide) w hT).mono fun e w' ⟨h, h'⟩ => ⟨h.trans (by kernel_rfl), h'⟩
theorem k_parse2 (w : World) (hT : Tab w) : Calls Tryd.prog 12 #[.string ⟨#[49, 56, 52, 52, 54, 55, 52, 52, 48, 55, 51, 55, 48, 57, 53, 53, 49, 54, 49, 54]⟩] w fun e w' => e = .returned (.tuple #[.int .u64 0, .int .i64 111]) ∧ Below w.heap.size w w' :=
  (parseCall_any ⟨#[49, 56, 52, 52, 54, 55, 52, 52, 48, 55, 51, 55, 48, 57, 53, 53, 49, 54, 49, 54]⟩ (show (⟨#[49, 56, 52, 52, 54, 55, 52, 52, 48, 55, 51, 55, 48, 57, 53, 53, 49, 54, 49, 54]⟩ : ByteArray).size ≤ 9223372036854775807 by decide) w hT).mono fun e w' ⟨h, h'⟩ => ⟨h.trans (by kernel_rfl), h'⟩
theorem k_parse3 (w : World) (hT : Tab w) : Calls Tryd.prog 12 #[.string ⟨#[]⟩] w fun e w' => e = .returned (.tuple #[.int .u64 0, .int .i64 110]) ∧ Below w.heap.size w w' :=
  (parseCall_any ⟨#[]⟩ (show (⟨#[]⟩ : ByteArray).size ≤ 9223372036854775807 by decide) w hT).mono fun e w' ⟨h, h'⟩ => ⟨h.trans (by kernel_rfl), h'⟩
theorem k_text (w : World) (hT : Tab w) : Calls Tryd.prog 11 #[.int .u64 431] w fun e w' => e = .returned (.string ⟨#[49, 97, 102]⟩) ∧ Below w.heap.size w w' :=
  (hexCall_any 431 (by omega) w hT).mono fun e w' ⟨⟨K, hK, h⟩, h'⟩ => ⟨by
    have : IsLen 16 431 3 := ⟨by decide, by decide, .inr (by decide)⟩
    rw [h, isLen_one (by omega) hK this]
    rfl, h'⟩

set_option maxRecDepth 100000 in
set_option maxHeartbeats 2000000 in
theorem works_any (w : World) (hT : Tab w) : Calls Tryd.prog 9 #[] w fun e w' => e = .returned (.bool true) ∧ Below w.heap.size w w' := by
  go_enter Tryd.func9, Tryd.ntmps9
  go_wp2_with fail
  refine (k_add _).mono ?_
  rintro e w' ⟨rfl, rfl⟩
  go_wp2_with fail
  refine (k_sub _).mono ?_
  rintro e w' ⟨rfl, rfl⟩
  go_wp2_with fail
  refine (k_mul _).mono ?_
  rintro e w' ⟨rfl, rfl⟩
  go_wp2_with fail
  refine (k_next1 _).mono ?_
  rintro e w' ⟨rfl, rfl⟩
  go_wp2_with fail
  refine (k_next2 _).mono ?_
  rintro e w' ⟨rfl, rfl⟩
  go_wp2_with fail
  refine (k_parse1 _ (by exact hT)).mono ?_
  rintro e w1 ⟨rfl, hb1⟩
  have hT1 := hT.below hb1
  go_wp2_with fail
  refine (k_digits _ (by exact hT1)).mono ?_
  rintro e w2 ⟨rfl, hb2⟩
  have hT2 := hT1.below hb2
  go_wp2_with fail
  refine (k_hex _ (by exact hT2)).mono ?_
  rintro e w3 ⟨rfl, hb3⟩
  have hT3 := hT2.below hb3
  go_wp2_with fail
  refine (k_parse2 _ (by exact hT3)).mono ?_
  rintro e w4 ⟨rfl, hb4⟩
  have hT4 := hT3.below hb4
  go_wp2_with fail
  refine (k_parse3 _ (by exact hT4)).mono ?_
  rintro e w5 ⟨rfl, hb5⟩
  have hT5 := hT4.below hb5
  go_wp2_with fail
  refine (k_clamp1 _).mono ?_
  rintro e w' ⟨rfl, rfl⟩
  go_wp2_with fail
  refine (k_clamp2 _).mono ?_
  rintro e w' ⟨rfl, rfl⟩
  go_wp2_with (first | (go_at_call 19; refine (num_any _ _).mono ?_; rintro e w' ⟨rfl, rfl⟩) | (go_at_call 11; refine (k_text _ hT5).mono ?_; rintro e w6 ⟨rfl, hb6⟩))
  go_ret
  exact ⟨rfl, below_on (below_on (below_on (below_on (below_on hb1 hb2) hb3) hb4) hb5) (by assumption)⟩
end Go.Proofs.YtlbiniibkbhghaaDoor

namespace Go.Proofs.YtlbiniibkbhghaaDoor
open Go.RowKit Go.Shelf
attribute [local go_sem] Oper.semAt_some

/-! ## Resets, Reset -/
def ResetsR (e : Ev) (w : World) (r : Ending) (w' : World) : Prop :=
  ((∃ a b, resE e = some (a, b) ∧ r = .returned (.tuple #[.int .u64 a, .int .u64 b, .int .i64 0])) ∨ (resE e = none ∧ r = .returned (.tuple #[.int .u64 0, .int .u64 0, .int .i64 170]))) ∧ Below w.heap.size w w'
theorem faceNum_any (e : Ev) (w : World) (hl : e.2.2.length ≤ 4294967000) (hD : Tab w) (hM : MaxT w) : Calls Tryd.prog 128 #[.func (.func 129) #[] #[], evV e] w fun r w' =>
    ((∃ a b, resE e = some (a, b) ∧ r = .returned (.tuple #[.agg #[.int .u64 a, .int .u64 b], .int .i64 0])) ∨ (resE e = none ∧ r = .returned (.tuple #[.agg #[.int .u64 0, .int .u64 0], .int .i64 170]))) ∧ Below w.heap.size w w' := by
  have hb : Below w.heap.size w (((w.alloc (.cells (evCells e) 53)).alloc (.cells #[.int .u64 0, .int .u64 0] 165)).alloc (.cells #[.int .i64 0] 25)) := (((Below.refl _ _).alloc (Nat.le_refl _) _).alloc (by simp) _).alloc (by simp; omega) _
  have h := numbers_any e _ hl (hD.below hb) (hM.below hb)
  have hen := enters_of Tryd.func129 (by kernel_rfl) rfl
  cases hr : resE e with
  | some p =>
    obtain ⟨a, b⟩ := p
    refine (face4_yes _ e w a b hen (h.mono (fun r w' h => ?_))).mono (fun r w' h => ⟨.inl ⟨a, b, rfl, h.1⟩, h.2⟩)
    rcases h.1 with ⟨a', b', h1, h2⟩ | h1
    · rw [hr] at h1; cases h1
      exact ⟨h2, h.2⟩
    · rw [hr] at h1; cases h1.1
  | none =>
    refine (face4_no _ 170 e w hen (h.mono (fun r w' h => ?_))).mono (fun r w' h => ⟨.inr ⟨rfl, h.1⟩, h.2⟩)
    rcases h.1 with ⟨a', b', h1, h2⟩ | h1
    · rw [hr] at h1; cases h1
    · exact ⟨h1.2, h.2⟩
set_option maxRecDepth 100000 in
set_option maxHeartbeats 2000000 in
theorem resets_any (e : Ev) (w : World) (hl : e.2.2.length ≤ 4294967000) (hD : Tab w) (hM : MaxT w) : Calls Tryd.prog 82 #[evV e] w (ResetsR e w) := by
  have hb : Below w.heap.size w (w.alloc (.cells (evCells e) 53)) := (Below.refl _ _).alloc (Nat.le_refl _) _
  have h := Lib.hid (faceNum_any e _ hl (hD.below hb) (hM.below hb))
  have hb' := Lib.hid hb
  clear hD hM hb
  unfold evV evCells at *
  unfold ResetsR
  go_enter Tryd.func82, Tryd.ntmps82
  go_wp2_with fail
  with_reducible refine Calls.mono h.out ?_
  rintro r w2 ⟨⟨a, b, hr, rfl⟩ | ⟨hr, rfl⟩, hb2⟩
  · have hb2' := Lib.hid hb2
    have hr' := Lib.hid hr
    clear hb2 hr
    have hall := Lib.hid (fun W (hb : Below (w2.alloc (.cells #[.int .u64 a, .int .u64 b] 165)).heap.size (w2.alloc (.cells #[.int .u64 a, .int .u64 b] 165)) W) => show W.cell? ⟨w2.heap.size, 0, none⟩ = some (.int .u64 a) ∧ W.cell? ⟨w2.heap.size, 1, none⟩ = some (.int .u64 b) from
      ⟨((Has.new w2 165 #[.int .u64 a, .int .u64 b]).below hb (by simp)).cell 0, ((Has.new w2 165 #[.int .u64 a, .int .u64 b]).below hb (by simp)).cell 1⟩)
    go_upto_region 2 with fail
    go_region_held3 (fun W => W.cell? ⟨w2.heap.size, 0, none⟩ = some (.int .u64 a) ∧ W.cell? ⟨w2.heap.size, 1, none⟩ = some (.int .u64 b))
      (first
      | (with_reducible exact hall.out _ (Below.refl _ _).drew)
      | fail)
      (fail)
    go_wp2
    go_ret3
    exact ⟨.inl ⟨a, b, hr'.out, rfl⟩, ((hb'.out.trans (hb2'.out.mono (by simp))).alloc (by have := hb2'.out.size; simp at this; omega) _).drew⟩
  · have hb2' := Lib.hid hb2
    have hr' := Lib.hid hr
    clear hb2 hr
    have hall := Lib.hid (fun W (hb : Below (w2.alloc (.cells #[.int .u64 0, .int .u64 0] 165)).heap.size (w2.alloc (.cells #[.int .u64 0, .int .u64 0] 165)) W) => show W.cell? ⟨w2.heap.size, 0, none⟩ = some (.int .u64 0) ∧ W.cell? ⟨w2.heap.size, 1, none⟩ = some (.int .u64 0) from
      ⟨((Has.new w2 165 #[.int .u64 0, .int .u64 0]).below hb (by simp)).cell 0, ((Has.new w2 165 #[.int .u64 0, .int .u64 0]).below hb (by simp)).cell 1⟩)
    go_upto_region 2 with fail
    go_region_held3 (fun W => W.cell? ⟨w2.heap.size, 0, none⟩ = some (.int .u64 0) ∧ W.cell? ⟨w2.heap.size, 1, none⟩ = some (.int .u64 0))
      (first
      | (with_reducible exact hall.out _ (Below.refl _ _).drew)
      | fail)
      (fail)
    go_wp2
    go_ret3
    exact ⟨.inr ⟨hr'.out, rfl⟩, ((hb'.out.trans (hb2'.out.mono (by simp))).alloc (by have := hb2'.out.size; simp at this; omega) _).drew⟩
theorem txt_len {b x K : Nat} : (txt b x K).length = K := by simp [txt, upto_length]
theorem cat_b (a b : List UInt8) : (⟨a.toArray⟩ : ByteArray) ++ ⟨b.toArray⟩ = ⟨(a ++ b).toArray⟩ := by
  rw [ByteArray.ext_iff]
  simp
def ResetR (x y : Nat) (w : World) (r : Ending) (w' : World) : Prop := ∃ K1 K2, IsLen 10 x K1 ∧ IsLen 10 y K2 ∧ r = .returned (evV ([], resetT, txt 10 x K1 ++ 32 :: txt 10 y K2)) ∧ Below w.heap.size w w'
set_option maxRecDepth 100000 in
set_option maxHeartbeats 2000000 in
theorem reset_any (x y : Nat) (hx : x < 18446744073709551616) (hy : y < 18446744073709551616) (w : World) (hD : Tab w) : Calls Tryd.prog 81 #[.int .u64 x, .int .u64 y] w (ResetR x y w) := by
  have hb : Below w.heap.size w (w.alloc (.cells #[.string ⟨#[]⟩, .string ⟨#[]⟩, .string ⟨#[]⟩] 53)) := (Below.refl _ _).alloc (Nat.le_refl _) _
  have h1 := Lib.hid (fun W (hb : Below w.heap.size w W) => textCall_any x hx W (hD.below hb))
  have h2 := Lib.hid (fun W (hb : Below w.heap.size w W) => textCall_any y hy W (hD.below hb))
  have hk := Lib.hid (Has.new w 53 #[.string ⟨#[]⟩, .string ⟨#[]⟩, .string ⟨#[]⟩])
  have hb' := Lib.hid hb
  clear hD hb
  unfold ResetR evV evCells resetT
  go_enter Tryd.func81, Tryd.ntmps81
  go_wp2_with (first
    | (go_at_call 10; (with_reducible refine Calls.mono (h2.out _ hb2'.out) ?_); rintro r w3 ⟨⟨K2, hK2, rfl⟩, hb3⟩; have hb3' := Lib.hid (hb2'.out.trans (hb3.mono hb2'.out.size)); have hk3 := Lib.hid (hk2.out.below hb3 hk2.out.lt); have m0 := hk3.out.cell 0; have m1 := hk3.out.cell 1; have m2 := hk3.out.cell 2; have g0 := hk3.out.free 0; have g1 := hk3.out.free 1; have g2 := hk3.out.free 2; have hK2' := Lib.hid hK2; have hs2 : (txt 10 y K2).length ≤ 20 := (by rw [txt_len]; exact (isLen_le (.inl rfl) hy hK2).2); clear hb3 hK2)
    | (go_at_call 10; (with_reducible refine Calls.mono (h1.out _ hb'.out) ?_); rintro r w2 ⟨⟨K1, hK1, rfl⟩, hb2⟩; have hb2' := Lib.hid (hb'.out.trans (hb2.mono hb'.out.size)); have hk2 := Lib.hid (hk.out.below hb2 hk.out.lt); have hK1' := Lib.hid hK1; have hs1 : (txt 10 x K1).length ≤ 20 := (by rw [txt_len]; exact (isLen_le (.inl rfl) hx hK1).2); clear hb2 hK1))
  have hf := ((hk3.out.put 0 (.string ⟨#[]⟩)).put 1 (.string ⟨resetT.toArray⟩)).put 2 (.string ⟨(txt 10 x K1 ++ 32 :: txt 10 y K2).toArray⟩)
  have z0 := hf.cell 0
  have z1 := hf.cell 1
  have z2 := hf.cell 2
  unfold resetT at z0 z1 z2
  have hcat : ((⟨(txt 10 x K1).toArray⟩ : ByteArray) ++ ⟨#[32]⟩) ++ ⟨(txt 10 y K2).toArray⟩ = ⟨(txt 10 x K1 ++ 32 :: txt 10 y K2).toArray⟩ := by
    rw [show (⟨#[32]⟩ : ByteArray) = ⟨([32] : List UInt8).toArray⟩ from rfl, cat_b, cat_b, List.append_assoc]
    rfl
  rw [hcat]
  refine ⟨rfl, _, ?_, K1, K2, hK1'.out, hK2'.out, rfl, ((hb3'.out.setCell (p := ⟨w.heap.size, 0, none⟩) (Nat.le_refl _) _).setCell (p := ⟨w.heap.size, 1, none⟩) (Nat.le_refl _) _).setCell (p := ⟨w.heap.size, 2, none⟩) (Nat.le_refl _) _⟩
  simp [results, Tryd.results81, go_sem, z0, z1, z2]
end Go.Proofs.YtlbiniibkbhghaaDoor

namespace Go.Proofs.YtlbiniibkbhghaaDoor
open Go.RowKit Go.Shelf
attribute [local go_sem] Oper.semAt_some

/-! ## works: the chapter's rows -/
set_option maxRecDepth 100000 in
theorem bs_conv {W : World} {n0 m c : Nat} {A : Option Addr} {l : List UInt8} (h : Bs W n0 (.slice A m c) l) : (convert 35 9 (.slice A m c)).run Tryd.prog W = .ok (.string ⟨l.toArray⟩) W := by
  obtain ⟨A', c', he, hr⟩ := h.shape
  injection he with h1 h2 h3
  subst h1; subst h3
  have := hr.text (P := Tryd.prog) 35 9 5 c Tryd.underlying35 Tryd.underlying5 Tryd.underlying9
  rwa [← h2] at this
theorem bs_slice {W : World} {n0 : Nat} {v : Value} {l : List UInt8} (h : Bs W n0 v l) : ∃ A m c, v = .slice A m c := by
  obtain ⟨A, c, h, _⟩ := h.shape
  exact ⟨_, _, _, h⟩
def TellB (bs : List UInt8) (w0 w : World) (r : Ending) (w' : World) : Prop := ∃ A m c, r = .returned (.tuple #[.slice A m c, .int .i64 0]) ∧ Bs w' w.heap.size (.slice A m c) bs ∧ Below w.heap.size w w' ∧ Below w0.heap.size w0 w'
theorem enc_lit (e : Ev) (bs : List UInt8) (w0 w : World) (hb : Below w0.heap.size w0 w) (hT : EvT w0) (hl : ShortE e) (hr : rightE e = true) (hbs : bytesE e = bs) : Calls Tryd.prog 80 #[evV e] w (TellB bs w0 w) := by
  refine (encode_any e w hl (hT.below hb)).mono ?_
  rintro r w' ⟨⟨_, v, rfl, hv⟩ | ⟨h, _⟩, hb2⟩
  · obtain ⟨A, m, c, rfl⟩ := bs_slice hv
    rw [hbs] at hv
    exact ⟨A, m, c, rfl, hv, hb2, hb.trans (hb2.mono hb.size)⟩
  · rw [hr] at h; cases h
theorem com_lit (t : List UInt8) (w0 w : World) (hb : Below w0.heap.size w0 w) (hT : EvT w0) (hl : t.length ≤ 1000) (hr : okC t = true) : Calls Tryd.prog 42 #[.string ⟨t.toArray⟩] w (TellB (comL t) w0 w) := by
  refine (comment_any t w (by omega) (hT.below hb)).mono ?_
  rintro r w' ⟨⟨_, v, rfl, hv⟩ | ⟨h, _⟩, hb2⟩
  · obtain ⟨A, m, c, rfl⟩ := bs_slice hv
    exact ⟨A, m, c, rfl, hv, hb2, hb.trans (hb2.mono hb.size)⟩
  · rw [hr] at h; cases h
theorem reset_lit (w0 w : World) (hb : Below w0.heap.size w0 w) (hD : Tab w0) : Calls Tryd.prog 81 #[.int .u64 2, .int .u64 5] w fun r w' => r = .returned (evV ([], resetT, [50, 32, 53])) ∧ Below w.heap.size w w' ∧ Below w0.heap.size w0 w' := by
  refine (reset_any 2 5 (by omega) (by omega) w (hD.below hb)).mono ?_
  rintro r w' ⟨K1, K2, h1, h2, rfl, hb2⟩
  have i1 : IsLen 10 2 1 := ⟨by decide, by decide, .inl rfl⟩
  have i2 : IsLen 10 5 1 := ⟨by decide, by decide, .inl rfl⟩
  rw [isLen_one (by omega) h1 i1, isLen_one (by omega) h2 i2]
  exact ⟨rfl, hb2, hb.trans (hb2.mono hb.size)⟩
theorem res_lit (e : Ev) (a b : Int) (w0 w : World) (hb : Below w0.heap.size w0 w) (hD : Tab w0) (hM : MaxT w0) (hl : e.2.2.length ≤ 1000) (hr : resE e = some (a, b)) : Calls Tryd.prog 82 #[evV e] w fun r w' => r = .returned (.tuple #[.int .u64 a, .int .u64 b, .int .i64 0]) ∧ Below w.heap.size w w' ∧ Below w0.heap.size w0 w' := by
  refine (resets_any e w (by omega) (hD.below hb) (hM.below hb)).mono ?_
  rintro r w' ⟨⟨a', b', h, rfl⟩ | ⟨h, _⟩, hb2⟩
  · rw [hr] at h; cases h
    exact ⟨rfl, hb2, hb.trans (hb2.mono hb.size)⟩
  · rw [hr] at h; cases h
theorem res_no (e : Ev) (w0 w : World) (hb : Below w0.heap.size w0 w) (hD : Tab w0) (hM : MaxT w0) (hl : e.2.2.length ≤ 1000) (hr : resE e = none) : Calls Tryd.prog 82 #[evV e] w fun r w' => r = .returned (.tuple #[.int .u64 0, .int .u64 0, .int .i64 170]) ∧ Below w.heap.size w w' ∧ Below w0.heap.size w0 w' := by
  refine (resets_any e w (by omega) (hD.below hb) (hM.below hb)).mono ?_
  rintro r w' ⟨⟨a', b', h, rfl⟩ | ⟨h, rfl⟩, hb2⟩
  · rw [hr] at h; cases h
  · exact ⟨rfl, hb2, hb.trans (hb2.mono hb.size)⟩
theorem right1 : rightE ([55], [116], [97, 10, 98]) = true := by unfold rightE cleanB soundB fitsE; decide +kernel
theorem right2 : rightE ([], [], []) = true := by unfold rightE cleanB soundB fitsE; decide +kernel
theorem right3 : rightE ([], [], [13]) = false := by unfold rightE cleanB soundB fitsE; decide +kernel
theorem okx : okC [120] = true := by unfold okC cleanB soundB; decide +kernel
theorem res1 : resE ([], resetT, [50, 32, 53]) = some (2, 5) := by decide +kernel
theorem res2 : resE ([], resetT, [50, 32, 32, 53]) = none := by decide +kernel
theorem bytes1 : bytesE ([55], [116], [97, 10, 98]) = [105, 100, 58, 32, 55, 10, 101, 118, 101, 110, 116, 58, 32, 116, 10, 100, 97, 116, 97, 58, 32, 97, 10, 100, 97, 116, 97, 58, 32, 98, 10, 10] := by decide +kernel
theorem bytes2 : bytesE ([], [], []) = [100, 97, 116, 97, 10, 10] := by decide +kernel
theorem numE_any (e : Int) (w : World) : Calls Tryd.prog 43 #[.int .i64 e] w fun r w' => r = .returned (.int .i64 e) ∧ w = w' := by
  go_enter Tryd.func43, Tryd.ntmps43
  go_wp2
  go_ret
  exact ⟨rfl, rfl⟩
theorem heart_lit (w0 w : World) (hb : Below w0.heap.size w0 w) (hT : EvT w0) : Calls Tryd.prog 83 #[] w fun r w' => ∃ A m c, r = .returned (.slice A m c) ∧ Bs w' w.heap.size (.slice A m c) (comL [104, 98]) ∧ Below w.heap.size w w' ∧ Below w0.heap.size w0 w' := by
  refine (heartbeat_any w (hT.below hb)).mono ?_
  rintro r w' ⟨v, rfl, hv, hb2⟩
  obtain ⟨A, m, c, rfl⟩ := bs_slice hv
  exact ⟨A, m, c, rfl, hv, hb2, hb.trans (hb2.mono hb.size)⟩
theorem check_lit (w0 w : World) (hb : Below w0.heap.size w0 w) (hT : EvT w0) : Calls Tryd.prog 44 #[evV ([], [], [13])] w fun r w' => r = .returned (.int .i64 2) ∧ Below w.heap.size w w' ∧ Below w0.heap.size w0 w' := by
  refine (check_any ([], [], [13]) w ⟨by simp, by simp, by simp⟩ (hT.below hb)).mono ?_
  rintro r w' ⟨rfl, hb2⟩
  refine ⟨?_, hb2, hb.trans (hb2.mono hb.size)⟩
  unfold errE
  rw [right3]
  rfl
set_option maxRecDepth 100000 in
set_option maxHeartbeats 4000000 in
theorem worksE_any (w : World) (hT : EvT w) (hD : Tab w) : Calls Tryd.prog 41 #[] w fun r w' => r = .returned (.bool true) ∧ Below w.heap.size w w' := by
  have hT' := Lib.hid hT
  have hD' := Lib.hid hD
  have heq : ∀ W, Sem.run Tryd.prog (binOp .eql 53 (evV ([], resetT, [50, 32, 53])) (evV ([], resetT, [50, 32, 53]))) W = .ok (.bool true) W := fun _ => by kernel_rfl
  unfold evV evCells resetT at heq
  clear hT hD
  go_enter Tryd.func41, Tryd.ntmps41
  go_wp2_with fail
  refine (enc_lit ([55], [116], [97, 10, 98]) _ w w (Below.refl _ _) hT'.out ⟨by simp, by simp, by simp⟩ right1 bytes1).mono ?_
  rintro r w1 ⟨A1, m1, c1, rfl, hv1, -, hb1⟩
  have hv1' := Lib.hid hv1
  have hb1' := Lib.hid hb1
  clear hv1 hb1
  go_wp2_with fail
  refine (enc_lit ([], [], []) _ w w1 hb1'.out hT'.out ⟨by simp, by simp, by simp⟩ right2 bytes2).mono ?_
  rintro r w2 ⟨A2, m2, c2, rfl, hv2, hc2, hb2⟩
  have hv12 := Lib.hid (hv1'.out.below hc2)
  have hv2' := Lib.hid hv2
  have hb2' := Lib.hid hb2
  clear hv2 hb2 hc2 hv1'
  go_wp2_with fail
  refine (com_lit [120] w w2 hb2'.out hT'.out (by simp) okx).mono ?_
  rintro r w3 ⟨A3, m3, c3, rfl, hv3, hc3, hb3⟩
  have hv13 := Lib.hid (hv12.out.below hc3)
  have hv23 := Lib.hid (hv2'.out.below hc3)
  have hv3' := Lib.hid hv3
  have hb3' := Lib.hid hb3
  clear hv3 hb3 hc3 hv12 hv2'
  go_wp2_with fail
  refine (reset_lit w w3 hb3'.out hD'.out).mono ?_
  rintro r w4 ⟨rfl, hc4, hb4⟩
  have hkE := Lib.hid (Has.new w4 53 (evCells ([], resetT, [50, 32, 53])))
  have hc5 : Below w3.heap.size w3 (w4.alloc (.cells (evCells ([], resetT, [50, 32, 53])) 53)) := hc4.alloc hc4.size _
  have hv15 := Lib.hid (hv13.out.below hc5)
  have hv25 := Lib.hid (hv23.out.below hc5)
  have hv35 := Lib.hid (hv3'.out.below hc5)
  have hb5' := Lib.hid (hb4.alloc hb4.size (.cells (evCells ([], resetT, [50, 32, 53])) 53))
  clear hb4 hc4 hc5 hv13 hv23 hv3'
  unfold evV
  unfold evCells resetT at *
  go_wp2_with fail
  refine (res_lit ([], resetT, [50, 32, 53]) 2 5 w _ hb5'.out hD'.out hT'.out.mx (by simp) res1).mono ?_
  rintro r w6 ⟨rfl, hc6, hb6⟩
  have hv16 := Lib.hid (hv15.out.below hc6)
  have hv26 := Lib.hid (hv25.out.below hc6)
  have hv36 := Lib.hid (hv35.out.below hc6)
  have hk6 := Lib.hid (hkE.out.below hc6 hkE.out.lt)
  have hb6' := Lib.hid hb6
  clear hb6 hc6 hv15 hv25 hv35 hkE
  go_wp2_with fail
  refine (res_no ([], resetT, [50, 32, 32, 53]) w _ hb6'.out hD'.out hT'.out.mx (by simp) res2).mono ?_
  rintro r w7 ⟨rfl, hc7, hb7⟩
  have cv1 := bs_conv (hv16.out.below hc7)
  have cv2 := bs_conv (hv26.out.below hc7)
  have cv3 := bs_conv (hv36.out.below hc7)
  have hk7 := Lib.hid (hk6.out.below hc7 hk6.out.lt)
  have hb7' := Lib.hid hb7
  clear hb7 hc7 hv16 hv26 hv36 hk6
  unfold comL at cv3
  go_wp2_with (first
    | (go_at_call 43; (with_reducible refine Calls.mono (numE_any _ _) ?_); rintro e w15 ⟨rfl, rfl⟩)
    | (go_at_call 83; (with_reducible refine Calls.mono (heart_lit w _ hb7'.out hT'.out) ?_); rintro r w8 ⟨A8, m8, c8, rfl, hv8, hc8, hb8⟩; have cv8 := bs_conv hv8; unfold comL at cv8; have hk8 := Lib.hid (hk7.out.below hc8 hk7.out.lt); have hb8' := Lib.hid hb8; clear hv8 hc8 hb8)
    | (go_at_call 44; (refine (check_lit w _ hb8'.out hT'.out).mono ?_); rintro r w9 ⟨rfl, hc9, hb9⟩; have hk9 := Lib.hid (hk8.out.below hc9 hk8.out.lt); have x0 := hk9.out.cell 0; have x1 := hk9.out.cell 1; have x2 := hk9.out.cell 2; have hb9' := Lib.hid hb9; clear hc9 hb9))
  go_ret
  exact ⟨rfl, hb9'.out⟩
end Go.Proofs.YtlbiniibkbhghaaDoor
