import Derived.RangeFuncNested
import Derived.RangeFuncBox
import Derived.RangeFuncBound
import Derived.RangeFuncCalls
import Derived.RangeFuncLeaves
import Derived.Shelf.Abstract
import Derived.Shelf.RegionOpen
import Derived.WalkKit
import Derived.OwnWalkIn
import Derived.TacticsInMore
import Derived.LoopNIn
import Derived.LoopIn
import Derived.Lib.Hide
import Derived.Test.YtjbcckmbpdahaaaDoorF
import Derived.ScopeJumps
import Derived.WalkMore
import Derived.Laws.EntriesVeiled
import Derived.BigQuiet
import Derived.Deep.QuietTactic
namespace Go.Proofs.YtjbcckmbpdahaaaDoor
open Go.RowKit Go.Shelf
attribute [local go_sem] Oper.semAt_some
attribute [local go_sem] wide_fn wide_depth wide_round

/-! ## Parse -/
theorem numR_110 {l : List UInt8} (h : (numR 10 l).2 = 110) : numR 10 l = (0, 110) := by
  unfold numR at *
  split at h
  · exfalso
    have key : ∀ (l : List UInt8) (r : Int × Int), (r.2 = 0 ∨ r.2 = 111) → (l.foldl (fun r c => step 10 r (c.toNat : Int)) r).2 = 0 ∨ (l.foldl (fun r c => step 10 r (c.toNat : Int)) r).2 = 111 := by
      intro l
      induction l with
      | nil => intro r h; exact h
      | cons c l ih =>
        intro r h
        refine ih _ ?_
        by_cases hz : r.2 = 0
        · show (step 10 r (c.toNat : Int)).2 = 0 ∨ (step 10 r (c.toNat : Int)).2 = 111
          rw [step_go hz]
          unfold moreR
          split
          · by_cases ha : (addR (mulR r.1 10).1 (worth (c.toNat : Int))).2 = 0
            · exact .inl ha
            · exact .inr (by rw [err_add ha])
          · rename_i hm
            exact .inr (by rw [err_mul hm])
        · show (step 10 r (c.toNat : Int)).2 = 0 ∨ (step 10 r (c.toNat : Int)).2 = 111
          rw [step_stay hz]; exact h
    rcases key l (0, 0) (.inl rfl) with h' | h' <;> (unfold goesR at h; rw [h'] at h; cases h)
  · rename_i h'
    rw [if_neg h']
theorem padB_at (s : ByteArray) (h1 : (1 : Int) < s.size) (h2 : 0 < s.size) : padB s.data.toList = ((s[0].toNat : Int) == 48) := by
  unfold padB
  have e : s.data.toList[0]? = some s[0] := by
    rw [Array.getElem?_toList]
    exact Array.getElem?_eq_getElem (show 0 < s.data.size from h2)
  have e2 : ((s[0].toNat : Int) == 48) = (s[0] == 48) := by
    rw [Bool.eq_iff_iff, beq_iff_eq, beq_iff_eq, ← UInt8.toNat_inj]
    constructor
    · intro h; simp; omega
    · intro h; rw [h]; rfl
  have h3 : decide (1 < s.data.toList.length) = true := by
    have : s.data.toList.length = s.size := by simp only [Array.length_toList]; rfl
    rw [decide_eq_true_eq]; omega
  rw [e, e2, h3]
  rfl
theorem padB_no (s : ByteArray) (h1 : (s.size : Int) ≤ 1) : padB s.data.toList = false := by
  unfold padB
  have h3 : decide (1 < s.data.toList.length) = false := by
    have : s.data.toList.length = s.size := by simp only [Array.length_toList]; rfl
    rw [decide_eq_false_iff_not]; omega
  rw [h3]
  rfl
section
set_option maxHeartbeats 400000
theorem refParse_any (s : ByteArray) (hm : s.size ≤ 9223372036854775807) (w : World) :
    Calls Tryd.prog 31 #[.string s] w fun e w' => e = Two (parseR s.data.toList) ∧ w = w' := by
  have hc := fun w => refDigits_any s hm w
  have hp : parseR s.data.toList = if padB s.data.toList = true then (0, 110) else numR 10 s.data.toList := rfl
  have h110 := @numR_110 s.data.toList
  generalize numR 10 s.data.toList = r at hc hp h110
  have hc' := Lib.hid hc
  have hp' := Lib.hid hp
  have h110' := Lib.hid h110
  clear hc hp h110
  go_enter Tryd.func31, Tryd.ntmps31
  go_wp2_with (go_at_call 32; refine (hc'.out _).mono ?_; rintro e w' ⟨rfl, rfl⟩; simp only [Two])
  · rename_i h
    go_ret2
    refine ⟨two_of ?_, rfl⟩
    rw [hp'.out]
    split
    · rfl
    · rw [h110'.out h]
      
  · rename_i h h1 h2 h3
    have h4 : (s[0].toNat : Int) = 48 := by
      rcases h3 with h3 | h3
      · exact absurd (beq_iff_eq.1 h3) h
      · exact beq_iff_eq.1 h3
    go_ret2
    refine ⟨two_of ?_, rfl⟩
    rw [hp'.out, padB_at s h1 h2, if_pos (beq_iff_eq.2 h4)]
  · rename_i h h1 h2 h3
    go_ret2
    refine ⟨two_of ?_, rfl⟩
    rw [hp'.out, padB_at s h1 h2, h3.2]
    rfl
  · rename_i h h1 h2
    go_ret2
    refine ⟨two_of ?_, rfl⟩
    rw [hp'.out, padB_no s h2]
    rfl
end
/-! ## Sums -/
def sumStep (r : Int × Int) (z : Int) : Int × Int := if r.2 = 0 then addR r.1 z else r
def sumR (l : List Int) : Int × Int := l.foldl sumStep (0, 0)
theorem sumR_take (l : List Int) {k : Nat} (hk : k < l.length) : sumR (l.take (k + 1)) = sumStep (sumR (l.take k)) l[k] := by
  rw [List.take_succ_eq_append_getElem hk]; unfold sumR; rw [List.foldl_append]; rfl
theorem sumR_stuck (l : List Int) (k : Nat) (h : ¬ (sumR (l.take k)).2 = 0) : sumR l = sumR (l.take k) := by
  have key : ∀ (l' : List Int) (r : Int × Int), ¬ r.2 = 0 → l'.foldl sumStep r = r := by
    intro l'
    induction l' with
    | nil => intro r _; rfl
    | cons c l' ih => intro r hr; simp only [List.foldl_cons]; rw [show sumStep r c = r from if_neg hr]; exact ih r hr
  have e : sumR l = (l.drop k).foldl sumStep (sumR (l.take k)) := by
    unfold sumR
    rw [← List.foldl_append, List.take_append_drop]
  rw [e]
  exact key _ _ h
theorem sumR_64 (l : List Int) (h : ∀ z ∈ l, Is64 z) : Is64 (sumR l).1 := by
  have : ∀ (l : List Int) (r : Int × Int), (∀ z ∈ l, Is64 z) → Is64 r.1 → Is64 (l.foldl sumStep r).1 := by
    intro l
    induction l with
    | nil => intro r _ h; exact h
    | cons c l ih =>
      intro r hl h
      refine ih _ (fun z hz => hl z (List.mem_cons_of_mem _ hz)) ?_
      unfold sumStep
      split
      · exact addR_64 h (hl c List.mem_cons_self)
      · exact h
  exact this l _ h ⟨by simp, by simp⟩
/-- The slice's cells are these numbers. -/
def Nums (W : World) (A : Option Addr) (zs : List Int) : Prop := (∀ z ∈ zs, Is64 z) ∧ zs.length ≤ 9223372036854775807 ∧ ∀ k (h : k < zs.length), ∃ b off, A = some ⟨b, off, none⟩ ∧ W.cell? ⟨b, off + k, none⟩ = some (.int .u64 zs[k])
def SumRel (zs : List Int) (i n : Value) : Prop := ∃ k : Nat, k ≤ zs.length ∧ i = .int .i64 k ∧ n = .int .u64 (sumR (zs.take k)).1 ∧ (sumR (zs.take k)).2 = 0

set_option maxRecDepth 100000 in
set_option maxHeartbeats 1000000 in
theorem refSum_any (A : Option Addr) (cap : Nat) (zs : List Int) (w : World) (hz : Nums w A zs) :
    Calls Tryd.prog 19 #[.slice A zs.length cap] w fun e w' => e = Two (sumR zs) ∧ w = w' := by
  obtain ⟨h64, hm, hc⟩ := hz
  have hA : zs.length = 0 ∨ ∃ b off, A = some ⟨b, off, none⟩ := by
    rcases Nat.eq_zero_or_pos zs.length with h | h
    · exact .inl h
    · obtain ⟨b, off, e, _⟩ := hc 0 h; exact .inr ⟨b, off, e⟩
  have h64' := Lib.hid h64
  have hc' := Lib.hid hc
  clear h64 hc
  rcases hA with h0 | ⟨b, off, rfl⟩
  · obtain rfl : zs = [] := List.eq_nil_of_length_eq_zero h0
    clear h0 hm
    go_enter Tryd.func19, Tryd.ntmps19
    go_wp2
    go_loop [4, 5] (fun n i => i = .int .i64 0 ∧ n = .int .u64 0) (fun _ _ => 0)
    case atStart => exact ⟨rfl, rfl⟩
    case round =>
      obtain ⟨rfl, rfl⟩ := hrel
      go_wp2
      go_ret2
      exact ⟨two_of rfl, rfl⟩
  · go_enter Tryd.func19, Tryd.ntmps19
    go_wp2
    go_loop [4, 5] (fun n i => SumRel zs i n) (fun _ i => zs.length - (intOf i).toNat)
    case atStart => exact ⟨0, Nat.zero_le _, rfl, rfl, rfl⟩
    case round =>
      obtain ⟨k, hk, rfl, rfl, hz⟩ := hrel
      by_cases hlt : k < zs.length
      · obtain ⟨b', off', e, hcell0⟩ := hc'.out k hlt
        obtain ⟨rfl, rfl⟩ : b = b' ∧ off = off' := by injection e with e; injection e with e1 e2; exact ⟨e1, e2⟩
        have hcell : w.cell? ⟨b, off + k, none⟩ = some (.int .u64 zs[k]) := hcell0
        clear e hcell0
        have hz64 : Is64 zs[k] := h64'.out _ (List.getElem_mem _)
        have hg64 : Is64 (sumR (zs.take k)).1 := sumR_64 _ (fun z hz => h64'.out z (List.mem_of_mem_take hz))
        have hst : sumR (zs.take (k + 1)) = addR (sumR (zs.take k)).1 zs[k] := by
          rw [sumR_take zs hlt]; exact if_pos hz
        have hstuck := sumR_stuck zs (k + 1)
        rw [hst] at hstuck
        generalize (sumR (zs.take k)).1 = n at hg64 hst hstuck ⊢
        clear hz
        generalize zs[k] = z at hcell hz64 hst hstuck
        have ha := fun w => refAdd_any n z w hg64 hz64
        have herra := @err_add n z
        generalize addR n z = a at hst hstuck ha herra
        have ha' := Lib.hid ha
        have hst' := Lib.hid hst
        clear ha hst hg64 hz64
        by_cases ha0 : a.2 = 0
        · have q2 : (a.2 != 0) = false := by rw [bne_eq_false_iff_eq]; exact ha0
          have ha0' := Lib.hid ha0
          clear hstuck herra ha0
          go_wp2_with (go_at_call 15; refine (ha'.out _).mono ?_; rintro e w' ⟨rfl, rfl⟩; simp only [Two])
          exact ⟨⟨k + 1, by omega, by go_num, by rw [hst'.out], by rw [hst'.out]; exact ha0'.out⟩, by simp [intOf]; omega⟩
        · have q2 : (a.2 != 0) = true := by rw [bne_iff_ne]; exact ha0
          have hres : Hid (sumR zs = (0, a.2)) := by
            show sumR zs = (0, a.2)
            rw [hstuck ha0, herra ha0]
          clear hstuck herra ha0
          go_wp2_with (go_at_call 15; refine (ha'.out _).mono ?_; rintro e w' ⟨rfl, rfl⟩; simp only [Two])
          go_ret2
          exact ⟨two_of hres.out, rfl⟩
      · obtain rfl : k = zs.length := by omega
        have htake : zs.take zs.length = zs := List.take_of_length_le (Nat.le_refl _)
        rw [htake] at hz ⊢
        have hres : Hid (sumR zs = ((sumR zs).1, 0)) := Prod.ext rfl hz
        clear hz htake
        have hh := hres.out
        revert hh
        generalize (sumR zs).1 = n
        intro hh
        have hh' := Lib.hid hh
        clear hh hres
        go_wp2
        go_ret2
        exact ⟨two_of hh'.out, rfl⟩

set_option maxRecDepth 100000 in
set_option maxHeartbeats 1000000 in
theorem fold_any (A : Option Addr) (cap : Nat) (zs : List Int) (w : World) (hz : Nums w A zs) :
    Calls Tryd.prog 37 #[.func (.func 9) #[] #[], .int .u64 0, .slice A zs.length cap] w fun e w' => e = Two (sumR zs) ∧ w = w' := by
  obtain ⟨h64, hm, hc⟩ := hz
  have hA : zs.length = 0 ∨ ∃ b off, A = some ⟨b, off, none⟩ := by
    rcases Nat.eq_zero_or_pos zs.length with h | h
    · exact .inl h
    · obtain ⟨b, off, e, _⟩ := hc 0 h; exact .inr ⟨b, off, e⟩
  have h64' := Lib.hid h64
  have hc' := Lib.hid hc
  clear h64 hc
  rcases hA with h0 | ⟨b, off, rfl⟩
  · obtain rfl : zs = [] := List.eq_nil_of_length_eq_zero h0
    clear h0 hm
    go_enter Tryd.func37, Tryd.ntmps37
    go_wp2
    go_loop [8, 17] (fun n i => i = .int .i64 0 ∧ n = .int .u64 0) (fun _ _ => 0)
    case atStart => exact ⟨rfl, rfl⟩
    case round =>
      obtain ⟨rfl, rfl⟩ := hrel
      go_wp2
      go_ret2
      exact ⟨two_of rfl, rfl⟩
  · go_enter Tryd.func37, Tryd.ntmps37
    go_wp2
    go_loop [8, 17] (fun n i => SumRel zs i n) (fun _ i => zs.length - (intOf i).toNat)
    case atStart => exact ⟨0, Nat.zero_le _, rfl, rfl, rfl⟩
    case round =>
      obtain ⟨k, hk, rfl, rfl, hz⟩ := hrel
      by_cases hlt : k < zs.length
      · obtain ⟨b', off', e, hcell0⟩ := hc'.out k hlt
        obtain ⟨rfl, rfl⟩ : b = b' ∧ off = off' := by injection e with e; injection e with e1 e2; exact ⟨e1, e2⟩
        have hcell : w.cell? ⟨b, off + k, none⟩ = some (.int .u64 zs[k]) := hcell0
        clear e hcell0
        have hz64 : Is64 zs[k] := h64'.out _ (List.getElem_mem _)
        have hg64 : Is64 (sumR (zs.take k)).1 := sumR_64 _ (fun z hz => h64'.out z (List.mem_of_mem_take hz))
        have hst : sumR (zs.take (k + 1)) = addR (sumR (zs.take k)).1 zs[k] := by
          rw [sumR_take zs hlt]; exact if_pos hz
        have hstuck := sumR_stuck zs (k + 1)
        rw [hst] at hstuck
        generalize (sumR (zs.take k)).1 = n at hg64 hst hstuck ⊢
        clear hz
        generalize zs[k] = z at hcell hz64 hst hstuck
        have ha := fun w => add_any n z w hg64 hz64
        have herra := @err_add n z
        generalize addR n z = a at hst hstuck ha herra
        have ha' := Lib.hid ha
        have hst' := Lib.hid hst
        clear ha hst hg64 hz64
        by_cases ha0 : a.2 = 0
        · have q2 : (a.2 != 0) = false := by rw [bne_eq_false_iff_eq]; exact ha0
          have ha0' := Lib.hid ha0
          clear hstuck herra ha0
          go_wp2_with (go_at_call 9; refine (ha'.out _).mono ?_; rintro e w' ⟨rfl, rfl⟩; simp only [Two])
          exact ⟨⟨k + 1, by omega, by go_num, by rw [hst'.out], by rw [hst'.out]; exact ha0'.out⟩, by simp [intOf]; omega⟩
        · have q2 : (a.2 != 0) = true := by rw [bne_iff_ne]; exact ha0
          have hres : Hid (sumR zs = (0, a.2)) := by
            show sumR zs = (0, a.2)
            rw [hstuck ha0, herra ha0]
          clear hstuck herra ha0
          go_wp2_with (go_at_call 9; refine (ha'.out _).mono ?_; rintro e w' ⟨rfl, rfl⟩; simp only [Two])
          go_ret2
          exact ⟨two_of hres.out, rfl⟩
      · obtain rfl : k = zs.length := by omega
        have htake : zs.take zs.length = zs := List.take_of_length_le (Nat.le_refl _)
        rw [htake] at hz ⊢
        have hres : Hid (sumR zs = ((sumR zs).1, 0)) := Prod.ext rfl hz
        clear hz htake
        have hh := hres.out
        revert hh
        generalize (sumR zs).1 = n
        intro hh
        have hh' := Lib.hid hh
        clear hh hres
        go_wp2
        go_ret2
        exact ⟨two_of hh'.out, rfl⟩

theorem sum_any (A : Option Addr) (cap : Nat) (zs : List Int) (w : World) (hz : Nums w A zs) :
    Calls Tryd.prog 13 #[.slice A zs.length cap] w fun e w' => e = Two (sumR zs) ∧ w = w' := by
  have hc := Lib.hid (fold_any A cap zs w hz)
  clear hz
  go_enter Tryd.func13, Tryd.ntmps13
  go_wp2_with (go_at_call 37; refine hc.out.mono ?_; rintro e w' ⟨rfl, rfl⟩; simp only [Two])
  go_ret2
  exact ⟨two_of rfl, rfl⟩
end Go.Proofs.YtjbcckmbpdahaaaDoor
