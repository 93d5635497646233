import Derived.RangeFuncNested
import Derived.RangeFuncBox
import Derived.RangeFuncBound
import Derived.RangeFuncCalls
import Derived.RangeFuncLeaves
import Derived.Shelf.Abstract
import Derived.Shelf.RegionOpen
import Derived.WalkKit
import Derived.OwnWalkIn
import Derived.TacticsInMore
import Derived.LoopNIn
import Derived.LoopIn
import Derived.Lib.Hide
import Derived.Test.YtdkmajmmhngdpaaDoorC
import Derived.Test.YtdkmajmmhngdpaaDoorE
import Derived.ScopeJumps
import Derived.WalkMore
import Derived.Laws.EntriesVeiled
import Derived.BigQuiet
import Derived.Deep.QuietTactic
namespace Go.Proofs.YtdkmajmmhngdpaaDoor
open Go.RowKit Go.Shelf
attribute [local go_sem] Oper.semAt_some
attribute [local go_sem] wide_fn wide_depth wide_round

/-! ## The table of bases -/
def Tab (W : World) : Prop := W.cell? ⟨0, 0, none⟩ = some (.int .u64 10) ∧ W.cell? ⟨0, 1, none⟩ = some (.int .u64 16)
theorem Tab.lt {W : World} (h : Tab W) : 0 < W.heap.size := by
  rcases Nat.lt_or_ge 0 W.heap.size with h' | h'
  · exact h'
  · have := h.1
    simp [World.cell?, Array.getElem?_eq_none h'] at this
theorem Tab.below {W W' : World} (h : Tab W) (hb : Below W.heap.size W W') : Tab W' :=
  ⟨(hb.cell (p := ⟨0, 0, none⟩) h.lt).trans h.1, (hb.cell (p := ⟨0, 1, none⟩) h.lt).trans h.2⟩

theorem number_any (b : Int) (hb : Is64 b) (s : ByteArray) (hm : s.size ≤ 9223372036854775807) (w : World) :
    Calls Tryd.prog 44 #[.agg #[.string s, .int .u64 b]] w fun e w' => e = Two (numR b s.data.toList) ∧ Below w.heap.size w w' := by
  cases hs : ((s.size : Int) == 0) with
  | false => exact callsIn_wide.1 (number_in 3 (by omega) b hb s hs hm w)
  | true =>
    rw [beq_iff_eq] at hs
    have : s.data = #[] := Array.eq_empty_of_size_eq_zero (by have : s.size = s.data.size := rfl; omega)
    obtain ⟨d⟩ := s
    simp only at this
    subst this
    exact number_empty b w

def parseR (l : List UInt8) : Int × Int := if padB l = true then (0, 110) else numR 10 l
theorem is64_10 : Is64 10 := ⟨by omega, by omega⟩
theorem is64_16 : Is64 16 := ⟨by omega, by omega⟩
section
set_option maxHeartbeats 400000
theorem digitsCall_any (s : ByteArray) (hm : s.size ≤ 9223372036854775807) (w : World) (hT : Tab w) :
    Calls Tryd.prog 14 #[.string s] w fun e w' => e = Two (numR 10 s.data.toList) ∧ Below w.heap.size w w' := by
  obtain ⟨t0, t1⟩ := hT
  go_enter Tryd.func14, Tryd.ntmps14
  go_wp2_with (go_at_call 44; refine (number_any _ is64_10 s hm _).mono ?_; rintro e w' ⟨rfl, hb⟩; simp only [Two])
  go_ret2
  exact ⟨two_of rfl, by assumption⟩
theorem hexDigitsCall_any (s : ByteArray) (hm : s.size ≤ 9223372036854775807) (w : World) (hT : Tab w) :
    Calls Tryd.prog 13 #[.string s] w fun e w' => e = Two (numR 16 s.data.toList) ∧ Below w.heap.size w w' := by
  obtain ⟨t0, t1⟩ := hT
  go_enter Tryd.func13, Tryd.ntmps13
  go_wp2_with (go_at_call 44; refine (number_any _ is64_16 s hm _).mono ?_; rintro e w' ⟨rfl, hb⟩; simp only [Two])
  go_ret2
  exact ⟨two_of rfl, by assumption⟩
theorem parseCall_any (s : ByteArray) (hm : s.size ≤ 9223372036854775807) (w : World) (hT : Tab w) :
    Calls Tryd.prog 12 #[.string s] w fun e w' => e = Two (parseR s.data.toList) ∧ Below w.heap.size w w' := by
  obtain ⟨t0, t1⟩ := hT
  cases hp : padB s.data.toList with
  | true =>
    go_enter Tryd.func12, Tryd.ntmps12
    go_wp2_with (go_at_call 43; refine (padded_any s _ hm).mono ?_; rintro e w' ⟨rfl, rfl⟩)
    go_ret2
    exact ⟨two_of (if_pos hp), (Below.refl _ _).alloc (Nat.le_refl _) _⟩
  | false =>
    go_enter Tryd.func12, Tryd.ntmps12
    go_wp2_with (first | (go_at_call 43; refine (padded_any s _ hm).mono ?_; rintro e w' ⟨rfl, rfl⟩) | (go_at_call 44; refine (number_any _ is64_10 s hm _).mono ?_; rintro e w' ⟨rfl, hb⟩; simp only [Two]))
    go_ret2
    refine ⟨two_of (if_neg (by rw [hp]; simp)), ?_⟩
    exact ((Below.refl _ _).alloc (Nat.le_refl _) _).trans (hb.mono (by simp))
theorem textCall_any (x : Nat) (hx : x < 18446744073709551616) (w : World) (hT : Tab w) :
    Calls Tryd.prog 10 #[.int .u64 x] w fun e w' => (∃ K, IsLen 10 x K ∧ e = .returned (.string ⟨(txt 10 x K).toArray⟩)) ∧ Below w.heap.size w w' := by
  obtain ⟨t0, t1⟩ := hT
  have hc := fun w => callsIn_wide.1 (written_in 3 (by omega) 10 x (.inl rfl) hx w)
  go_enter Tryd.func10, Tryd.ntmps10
  go_wp2_with (go_at_call 42; refine (hc _).mono ?_; rintro e w' ⟨⟨K, hK, rfl⟩, hb⟩)
  go_ret
  exact ⟨⟨_, by assumption, rfl⟩, by assumption⟩
theorem hexCall_any (x : Nat) (hx : x < 18446744073709551616) (w : World) (hT : Tab w) :
    Calls Tryd.prog 11 #[.int .u64 x] w fun e w' => (∃ K, IsLen 16 x K ∧ e = .returned (.string ⟨(txt 16 x K).toArray⟩)) ∧ Below w.heap.size w w' := by
  obtain ⟨t0, t1⟩ := hT
  have hc := fun w => callsIn_wide.1 (written_in 3 (by omega) 16 x (.inr rfl) hx w)
  go_enter Tryd.func11, Tryd.ntmps11
  go_wp2_with (go_at_call 42; refine (hc _).mono ?_; rintro e w' ⟨⟨K, hK, rfl⟩, hb⟩)
  go_ret
  exact ⟨⟨_, by assumption, rfl⟩, by assumption⟩
theorem refText_any (x : Nat) (hx : x < 18446744073709551616) (w : World) :
    Calls Tryd.prog 17 #[.int .u64 x] w fun e w' => (∃ K, IsLen 10 x K ∧ e = .returned (.string ⟨(txt 10 x K).toArray⟩)) ∧ w = w' := by
  have hc := fun w => told_any 10 x (.inl rfl) hx w
  go_enter Tryd.func17, Tryd.ntmps17
  go_wp2_with (go_at_call 54; refine (hc _).mono ?_; rintro e w' ⟨⟨K, hK, rfl⟩, rfl⟩)
  go_ret
  exact ⟨⟨_, by assumption, rfl⟩, rfl⟩
theorem refHex_any (x : Nat) (hx : x < 18446744073709551616) (w : World) :
    Calls Tryd.prog 18 #[.int .u64 x] w fun e w' => (∃ K, IsLen 16 x K ∧ e = .returned (.string ⟨(txt 16 x K).toArray⟩)) ∧ w = w' := by
  have hc := fun w => told_any 16 x (.inr rfl) hx w
  go_enter Tryd.func18, Tryd.ntmps18
  go_wp2_with (go_at_call 54; refine (hc _).mono ?_; rintro e w' ⟨⟨K, hK, rfl⟩, rfl⟩)
  go_ret
  exact ⟨⟨_, by assumption, rfl⟩, rfl⟩
end

/-! ## The document's reading -/
theorem err_add {a b : Int} (h : ¬ (addR a b).2 = 0) : addR a b = (0, 111) := by
  unfold addR at *; split at h
  · exact absurd rfl h
  · rename_i h'; rw [if_neg h']
theorem err_mul {a b : Int} (h : ¬ (mulR a b).2 = 0) : mulR a b = (0, 111) := by
  unfold mulR at *; split at h
  · exact absurd rfl h
  · rename_i h'; rw [if_neg h']
theorem goesR_take (b : Int) (l : List UInt8) {k : Nat} (hk : k < l.length) : goesR b (l.take (k + 1)) = step b (goesR b (l.take k)) ((l[k]).toNat : Int) := by
  rw [List.take_succ_eq_append_getElem hk, goesR_snoc]
theorem goesR_stuck (b : Int) (l : List UInt8) (k : Nat) (h : ¬ (goesR b (l.take k)).2 = 0) : goesR b l = goesR b (l.take k) := by
  have key : ∀ (l' : List UInt8) (r : Int × Int), ¬ r.2 = 0 → l'.foldl (fun r c => step b r (c.toNat : Int)) r = r := by
    intro l'
    induction l' with
    | nil => intro r _; rfl
    | cons c l' ih => intro r hr; simp only [List.foldl_cons]; rw [step_stay hr]; exact ih r hr
  have e : goesR b l = (l.drop k).foldl (fun r c => step b r (c.toNat : Int)) (goesR b (l.take k)) := by
    unfold goesR
    rw [← List.foldl_append, List.take_append_drop]
  rw [e]
  exact key _ _ h
def ReadRel (b : Int) (l : List UInt8) (i n : Value) : Prop := ∃ k : Nat, k ≤ l.length ∧ i = .int .i64 k ∧ n = .int .u64 (goesR b (l.take k)).1 ∧ (goesR b (l.take k)).2 = 0
def ScanRel (b : Int) (l : List UInt8) (i : Value) : Prop := ∃ k : Nat, k ≤ l.length ∧ i = .int .i64 k ∧ ∀ c ∈ l.take k, isDig b (c.toNat : Int) = true

set_option maxRecDepth 100000 in
set_option maxHeartbeats 1000000 in
theorem read_any (b : Int) (hb : Is64 b) (s : ByteArray) (hm : s.size ≤ 9223372036854775807) (w : World) :
    Calls Tryd.prog 55 #[.string s, .int .u64 b] w fun e w' => e = Two (numR b s.data.toList) ∧ w = w' := by
  have hl : s.data.toList.length = s.size := by simp only [Array.length_toList]; rfl
  cases hs : ((s.size : Int) == 0) with
  | true =>
    have hz := hs
    rw [beq_iff_eq] at hz
    have he : numR b s.data.toList = (0, 110) := if_neg (by rintro ⟨h, _⟩; exact h (List.eq_nil_of_length_eq_zero (by omega)))
    have he' := Lib.hid he
    clear hz he hl
    go_enter Tryd.func55, Tryd.ntmps55
    go_wp2
    go_ret2
    exact ⟨two_of he'.out, rfl⟩
  | false =>
    have hl' := Lib.hid hl
    have hb' := Lib.hid hb
    clear hb hl
    go_enter Tryd.func55, Tryd.ntmps55
    go_wp2
    go_loop [6] (fun i => ScanRel b s.data.toList i) (fun i => s.size - (intOf i).toNat)
    case atStart => exact ⟨0, Nat.zero_le _, rfl, by simp⟩
    case round =>
      obtain ⟨k, hk, rfl, hall⟩ := hrel
      rw [hl'.out] at hk
      have hall' := Lib.hid hall
      clear hall
      by_cases hlt : k < s.size
      · have hy0 : (0 : Int) ≤ (s[k].toNat : Int) := by omega
        have hy1 := byte_lt s[k]
        cases hd : isDig b (s[k].toNat : Int) with
        | true =>
          have hw : worth (s[k].toNat : Int) < b := of_decide_eq_true hd
          have hd' := Lib.hid hd
          clear hd
          go_wp2_with (go_at_call 82; refine (refDigit_any _ _ hy0 hy1).mono ?_; rintro e w' ⟨rfl, rfl⟩)
          refine ⟨⟨k + 1, by rw [hl'.out]; omega, by go_num, ?_⟩, by simp [intOf]; omega⟩
          intro c hc
          rw [List.take_succ_eq_append_getElem (by rw [hl'.out]; exact hlt)] at hc
          rcases List.mem_append.1 hc with hc | hc
          · exact hall'.out c hc
          · rw [List.mem_singleton.1 hc]; exact hd'.out
        | false =>
          have hw : b ≤ worth (s[k].toNat : Int) := by have := of_decide_eq_false hd; omega
          have he : numR b s.data.toList = (0, 110) := if_neg (by
            rintro ⟨_, h⟩
            have := h s[k] (Array.mem_toList_iff.2 (Array.getElem_mem _))
            rw [hd] at this; cases this)
          have he' := Lib.hid he
          clear hd he
          go_wp2_with (go_at_call 82; refine (refDigit_any _ _ hy0 hy1).mono ?_; rintro e w' ⟨rfl, rfl⟩)
          go_ret2
          exact ⟨two_of he'.out, rfl⟩
      · obtain rfl : k = s.size := by omega
        have hnum : Hid (numR b s.data.toList = goesR b s.data.toList) := by
          refine if_pos ⟨?_, ?_⟩
          · intro e
            rw [beq_eq_false_iff_ne] at hs
            have := hl'.out
            rw [e] at this
            simp at this
            omega
          · have := hall'.out
            rwa [List.take_of_length_le (by rw [hl'.out]; omega)] at this
        clear hall'
        go_wp2
        go_loop [7, 8] (fun n i => ReadRel b s.data.toList i n) (fun _ i => s.size - (intOf i).toNat)
        case atStart => exact ⟨0, Nat.zero_le _, rfl, rfl, rfl⟩
        case round =>
          obtain ⟨k, hk, rfl, rfl, hz⟩ := hrel
          rw [hl'.out] at hk
          by_cases hlt : k < s.size
          · have hy0 : (0 : Int) ≤ (s[k].toNat : Int) := by omega
            have hy1 := byte_lt s[k]
            have hg64 : Is64 (goesR b (s.data.toList.take k)).1 := goesR_64 hb'.out _
            have hst : goesR b (s.data.toList.take (k + 1)) = moreR b (goesR b (s.data.toList.take k)).1 (s[k].toNat : Int) := by
              rw [goesR_take b _ (by rw [hl'.out]; exact hlt), step_go hz]
              rfl
            have hstuck := goesR_stuck b s.data.toList (k + 1)
            rw [hst] at hstuck
            generalize (goesR b (s.data.toList.take k)).1 = n at hg64 hst hstuck ⊢
            clear hz
            have hmr : moreR b n (s[k].toNat : Int) = if (mulR n b).2 = 0 then addR (mulR n b).1 (worth (s[k].toNat : Int)) else (0, (mulR n b).2) := rfl
            have hc := fun w => refMul_any n b w hg64 hb'.out
            have hm64 := mulR_64 hg64 hb'.out
            have herr := @err_mul n b
            generalize mulR n b = m at hmr hc hm64 herr
            have hw64 := worth_64 (s[k].toNat : Int)
            have ha := fun w => refAdd_any m.1 (worth (s[k].toNat : Int)) w hm64 hw64
            have herra := @err_add m.1 (worth (s[k].toNat : Int))
            generalize addR m.1 (worth (s[k].toNat : Int)) = a at hmr ha herra
            have hc' := Lib.hid hc
            have ha' := Lib.hid ha
            have hst' := Lib.hid hst
            clear hc ha hst hg64 hm64 hw64
            by_cases hm0 : m.2 = 0
            · have q1 : (m.2 == 0) = true := by rw [beq_iff_eq]; exact hm0
              rw [if_pos hm0] at hmr
              by_cases ha0 : a.2 = 0
              · have q2 : (a.2 != 0) = false := by rw [bne_eq_false_iff_eq]; exact ha0
                have hres : Hid (goesR b (s.data.toList.take (k + 1)) = a) := hst'.out.trans hmr
                have ha0' := Lib.hid ha0
                clear hstuck hmr herr herra hm0 ha0
                go_wp2_with (first | (go_at_call 83; refine (hc'.out _).mono ?_; rintro e w' ⟨rfl, rfl⟩; simp only [Two]) | (go_at_call 82; refine (refDigit_any _ _ hy0 hy1).mono ?_; rintro e w' ⟨rfl, rfl⟩) | (go_at_call 84; refine (ha'.out _).mono ?_; rintro e w' ⟨rfl, rfl⟩; simp only [Two]))
                exact ⟨⟨k + 1, by rw [hl'.out]; omega, by go_num, by rw [hres.out], by rw [hres.out]; exact ha0'.out⟩, by simp [intOf]; omega⟩
              · have q2 : (a.2 != 0) = true := by rw [bne_iff_ne]; exact ha0
                have hres : Hid (numR b s.data.toList = (0, 111)) := by
                  show numR b s.data.toList = (0, 111)
                  rw [hnum.out, hstuck (by rw [hmr]; exact ha0), hmr, herra ha0]
                clear hstuck hmr herr herra hm0 ha0
                go_wp2_with (first | (go_at_call 83; refine (hc'.out _).mono ?_; rintro e w' ⟨rfl, rfl⟩; simp only [Two]) | (go_at_call 82; refine (refDigit_any _ _ hy0 hy1).mono ?_; rintro e w' ⟨rfl, rfl⟩) | (go_at_call 84; refine (ha'.out _).mono ?_; rintro e w' ⟨rfl, rfl⟩; simp only [Two]))
                go_ret2
                exact ⟨two_of hres.out, rfl⟩
            · have q1 : (m.2 == 0) = false := by rw [beq_eq_false_iff_ne]; exact hm0
              have q2 : (m.2 != 0) = true := by rw [bne_iff_ne]; exact hm0
              rw [if_neg hm0] at hmr
              have hres : Hid (numR b s.data.toList = (0, 111)) := by
                show numR b s.data.toList = (0, 111)
                rw [hnum.out, hstuck (by rw [hmr]; exact hm0), hmr, herr hm0]
              clear hstuck hmr herr herra hm0
              go_wp2_with (first | (go_at_call 83; refine (hc'.out _).mono ?_; rintro e w' ⟨rfl, rfl⟩; simp only [Two]))
              go_ret2
              exact ⟨two_of hres.out, rfl⟩
          · obtain rfl : k = s.size := by omega
            have hres : Hid (numR b s.data.toList = ((goesR b s.data.toList).1, 0)) := by
              rw [hnum.out]
              refine Prod.ext rfl ?_
              rwa [List.take_of_length_le (by rw [hl'.out]; omega)] at hz
            have htake : Hid (s.data.toList.take s.size = s.data.toList) := List.take_of_length_le (by rw [hl'.out]; omega)
            clear hz
            rw [htake.out]
            generalize (goesR b s.data.toList).1 = n at hres
            go_wp2
            go_ret2
            exact ⟨two_of hres.out, rfl⟩
section
set_option maxHeartbeats 400000
theorem refDigits_any (s : ByteArray) (hm : s.size ≤ 9223372036854775807) (w : World) :
    Calls Tryd.prog 21 #[.string s] w fun e w' => e = Two (numR 10 s.data.toList) ∧ w = w' := by
  go_enter Tryd.func21, Tryd.ntmps21
  go_wp2_with (go_at_call 55; refine (read_any _ is64_10 s hm _).mono ?_; rintro e w' ⟨rfl, rfl⟩; simp only [Two])
  go_ret2
  exact ⟨two_of rfl, rfl⟩
theorem refHexDigits_any (s : ByteArray) (hm : s.size ≤ 9223372036854775807) (w : World) :
    Calls Tryd.prog 22 #[.string s] w fun e w' => e = Two (numR 16 s.data.toList) ∧ w = w' := by
  go_enter Tryd.func22, Tryd.ntmps22
  go_wp2_with (go_at_call 55; refine (read_any _ is64_16 s hm _).mono ?_; rintro e w' ⟨rfl, rfl⟩; simp only [Two])
  go_ret2
  exact ⟨two_of rfl, rfl⟩
end
end Go.Proofs.YtdkmajmmhngdpaaDoor
