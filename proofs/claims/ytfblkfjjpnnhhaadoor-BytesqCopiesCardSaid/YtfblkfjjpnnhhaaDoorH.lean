import Derived.Test.YtfblkfjjpnnhhaaDoorG
import Derived.Test.YtfblkfjjpnnhhaaDoorR
import Derived.RangeFuncNested
import Derived.RangeFuncBox
import Derived.RangeFuncBound
import Derived.RangeFuncCalls
import Derived.OwnWalkIn
import Derived.TacticsInMore
import Derived.LoopNIn
import Derived.LoopIn
import Derived.Stop.RegionWithIn
namespace Go.Proofs.YtfblkfjjpnnhhaaDoor
open Go.RowKit
attribute [local go_sem] Oper.semAt_some
theorem wide_fn (f : FuncId) : Fence.wide.fn f = True := rfl
theorem wide_depth : Fence.wide.depth.isSome = false := rfl
theorem wide_round (l : Nat) (f : FuncId) : (Fence.wide.inRound l).fn f = True := rfl
attribute [local go_sem] wide_fn wide_depth wide_round

/-! ## Bytes, one by one -/
/-- The first k numbers below n. -/
def firsts (n k : Nat) : List (Fin n) := (List.finRange n).take k
theorem firsts_succ {n k : Nat} (h : k < n) : firsts n (k + 1) = firsts n k ++ [⟨k, h⟩] := by
  unfold firsts
  rw [List.take_succ_eq_append_getElem (by rw [List.length_finRange]; exact h), List.getElem_finRange]
  rfl
theorem firsts_length {n k : Nat} (h : k ≤ n) : (firsts n k).length = k := by unfold firsts; rw [List.length_take, List.length_finRange]; omega
/-- What is told of the i-th byte: its place, and the byte. -/
def encAt (bs : List UInt8) (i : Fin bs.length) : Array Value := #[.int .i64 ((i.val : Nat) : Int), .int .u8 (bs[i.val].toNat : Int)]

/-- Block k is a stock of its own in which these bytes stand; its row lies in block r. -/
def SeqB (W : World) (k r : Nat) (bs : List UInt8) : Prop :=
  ∃ A cs s, Has W k 44 #[.slice A cs.length cs.length, .int .i64 ((s : Nat) : Int), .int .i64 (bs.length : Int)] ∧ Row W r 5 A cs ∧ (s < cs.length ∨ s = 0) ∧ bs.length ≤ cs.length ∧ cs.length ≤ 1048576 ∧ rb cs s bs.length = bs
theorem SeqB.kept {W W' : World} {k r : Nat} {bs : List UInt8} (h : SeqB W k r bs) (hk : W'.heap[k]? = W.heap[k]?) (hr : W'.heap[r]? = W.heap[r]?) : SeqB W' k r bs := by
  obtain ⟨A, cs, s, h1, h2, h3⟩ := h
  exact ⟨A, cs, s, hk.trans h1, h2.kept hr, h3⟩
theorem SeqB.lt {W : World} {k r : Nat} {bs : List UInt8} (h : SeqB W k r bs) : k < W.heap.size := by
  obtain ⟨A, cs, s, h1, h2, h3⟩ := h
  exact h1.lt
theorem SeqB.below {W W' : World} {k r : Nat} {bs : List UInt8} (h : SeqB W k r bs) (hb : Below W.heap.size W W') : SeqB W' k r bs := by
  obtain ⟨A, cs, s, h1, h2, h3⟩ := h
  exact ⟨A, cs, s, h1.below hb h1.lt, fun hl => ⟨(h2 hl).1, (h2 hl).2.below hb (h2.lt hl)⟩, h3⟩

/-- A round's answer, by a Bool. -/
def YPost {α : Type} (J Jx : List α → World → Prop) (K : World → World → Prop) (ys : List α) (W : World) (b : Bool) (W' : World) : Prop := if b = true then J ys W' ∧ K W W' else Jx ys W'

set_option maxRecDepth 100000 in
set_option maxHeartbeats 1000000 in
theorem each1_in (n : Nat) (hn : 1 ≤ n) (bs : List UInt8) (l k r : Nat) (J Jx : List (Fin bs.length) → World → Prop) (hJ : ∀ ys W, J ys W → J ys W.drew)
    (hY : ∀ pre y W, J pre W → pre.length < bs.length → YieldAt Fence.wide (n - 1) Tryd.prog l (encAt bs y) W fun e W' =>
      (e = .returned (.bool true) ∧ J (pre ++ [y]) W' ∧ Kept (fun b => b = k ∨ b = r) W W') ∨ (e = .returned (.bool false) ∧ Jx (pre ++ [y]) W'))
    (W : World) (h : SeqB W k r bs) (h0 : J [] W) :
    CallsIn Fence.wide n Tryd.prog 35 #[.func (.yield l) #[] #[], .pointer (some ⟨k, 0, none⟩)] W fun e W' => (∃ v, e = .returned v) ∧
      ((∃ ys, ys = firsts bs.length bs.length ∧ J ys W') ∨ (∃ pre, (∃ k, k < bs.length ∧ pre = firsts bs.length (k + 1)) ∧ Jx pre W')) := by
  refine callsIn_of_wp Tryd.func35 rfl trivial ?_ rfl
  simp only [Tryd.ntmps35, List.size_toArray, List.length_cons, List.length_nil, Nat.reduceAdd, Nat.reduceSub, Array.replicate_succ, Array.replicate_zero, List.push_toArray, List.append_toArray, List.nil_append, List.cons_append]
  obtain ⟨A, cs, s, hb, hrow, hst, hcnt, hsm, hrb⟩ := h
  have c2 : W.cell? ⟨k, 2, none⟩ = some (.int .i64 (bs.length : Int)) := hb.cell 2
  have hb' := Lib.hid hb
  have hrow' := Lib.hid hrow
  have hrb' := Lib.hid hrb
  clear hb hrow hrb
  gi_wp2
  gi_loopw [6] (fun i wr => ∃ j : Nat, j ≤ bs.length ∧ i = .int .i64 j ∧ J (firsts bs.length j) wr ∧ Kept (fun b => b = k ∨ b = r) W wr)
    (fun i _ => bs.length - (intOf i).toNat)
  case atStart => exact ⟨0, Nat.zero_le _, rfl, h0, Kept.refl _ _⟩
  case round =>
    obtain ⟨j, hj, rfl, hJs, hK⟩ := hrel
    by_cases hlt : j < bs.length
    · have hK' := Lib.hid hK
      obtain ⟨fn, tmps, assign, body, hy, hR⟩ := hY _ ⟨j, hlt⟩ wr.drew (hJ _ _ hJs) (by rw [firsts_length (by omega)]; exact hlt)
      have hbw : Has wr.drew k _ _ := hK'.out.has (.inl rfl) hb'.out
      have d0 : wr.drew.cell? ⟨k, 0, none⟩ = some (.slice A cs.length cs.length) := hbw.cell 0
      have d1 : wr.drew.cell? ⟨k, 1, none⟩ = some (.int .i64 (s : Int)) := hbw.cell 1
      have hix : idx cs.length s j < cs.length := by have := idx_or cs.length s j; omega
      have hA := (hrow'.out (by omega)).1
      have hrw : Has wr.drew r _ _ := hK'.out.has (.inr rfl) (hrow'.out (by omega)).2
      have hbyte : wr.drew.cell? ⟨r, idx cs.length s j, none⟩ = some (.int .u8 ((bs[j]'hlt).toNat : Int)) := by
        rw [hrw.cell, List.getElem?_toArray, byts_at hix]
        have := getD_some hix
        rw [List.getElem?_eq_getElem hix] at this
        have h2 := rb_get (cs := cs) (s := s) hlt
        rw [hrb'.out] at h2
        rw [List.getElem?_eq_getElem hlt] at h2
        rw [Option.some.inj h2, Option.some.inj this]; rfl
      have hR2 := Lib.hid (hR.mono (R' := fun e W' => ∃ b, e = .returned (.bool b) ∧ YPost J Jx (Kept (fun b => b = k ∨ b = r)) (firsts bs.length (j + 1)) wr.drew b W') (by
        rintro e W' (⟨rfl, h1, h2⟩ | ⟨rfl, h1⟩)
        · exact ⟨true, rfl, by rw [firsts_succ hlt]; exact ⟨h1, h2⟩⟩
        · exact ⟨false, rfl, by rw [firsts_succ hlt]; exact h1⟩))
      have hy' : (Instr.yield l #[.int .i64 (j : Int), .int .u8 ((bs[j]'hlt).toNat : Int)]).run Tryd.prog wr.drew = .ok (Next.round l fn tmps assign body) wr.drew := hy
      clear hy
      have hKd : Hid (Kept (fun b => b = k ∨ b = r) W wr.drew) := hK'.out
      have hix' : ((idx cs.length s j : Nat) : Int) < (cs.length : Int) := by omega
      have hbnd : s + j < 9223372036854775808 := by omega
      have hcall := Lib.hid (callsIn_wide (n := n - 1).2 (index_any k cs.length A cs.length s j wr.drew d0 d1 hbnd (by omega)))
      generalize idx cs.length s j = x at hix hix' hbyte hcall ⊢
      clear hR hY hbw hrw hJs hK
      gi_wp2
      gi_region_with (first | (gi_at_call 34; refine hcall.out.mono ?_; rintro e w' ⟨rfl, rfl⟩) | (refine hR2.out.mono ?_; rintro e W3 ⟨b, rfl, hP⟩))
      all_goals
        cases b
        · have hP' := Lib.hid (show Jx (firsts bs.length (j + 1)) W3 from hP)
          clear hP
          gi_wp2
          refine bodyPost_ret (results_none rfl _ _ _) rfl ?_
          exact ⟨⟨_, rfl⟩, .inr ⟨_, ⟨j, hlt, rfl⟩, hP'.out⟩⟩
        · have hP' := Lib.hid (show J (firsts bs.length (j + 1)) W3 ∧ Kept (fun b => b = k ∨ b = r) wr.drew W3 from hP)
          clear hP
          gi_wp2
          exact ⟨⟨j + 1, by omega, by go_num, hP'.out.1, hKd.out.trans hP'.out.2⟩, by simp [intOf]; omega⟩
    · obtain rfl : j = bs.length := by omega
      gi_wp2
      go_end0
      exact ⟨⟨_, rfl⟩, .inl ⟨_, rfl, hJs⟩⟩
theorem each_stops (n : Nat) (hn : 1 ≤ n) (bs : List UInt8) (k r : Nat) (w : World) (h : SeqB w k r bs) :
    SeqStopsK Fence.wide n Tryd.prog 35 #[.pointer (some ⟨k, 0, none⟩)] (encAt bs) (Kept (fun b => b = k ∨ b = r)) (fun ys => ys = firsts bs.length bs.length)
      (fun pre => ∃ k, k < bs.length ∧ pre = firsts bs.length (k + 1)) bs.length w := fun l J Jx W hW hA _ hY h0 =>
  each1_in n hn bs l k r J Jx (fun ys W' hs => hA ys W' W'.drew none hs ⟨rfl, rfl, rfl, Nat.le_refl _, fun _ _ _ => rfl⟩ (fun r e => by cases e)) hY W (h.below hW) h0

/-! ## All, Copy -/
theorem each_any (a b c : Value) (w : World) :
    Calls Tryd.prog 30 #[.agg #[a, b, c]] w fun e w' => e = .returned (.func (.func 35) #[] #[.pointer (some ⟨w.heap.size, 0, none⟩)]) ∧ w' = w.alloc (.cells #[a, b, c] 44) := by
  go_enter Tryd.func30, Tryd.ntmps30
  go_wp2
  go_ret
  exact ⟨rfl, rfl⟩
def AllOf (bs : List UInt8) (w : World) (e : Ending) (w' : World) : Prop :=
  ∃ k r, e = .returned (.func (.func 35) #[] #[.pointer (some ⟨k, 0, none⟩)]) ∧ SeqB w' k r bs ∧ w.heap.size ≤ k ∧ w.heap.size ≤ r ∧ r < w'.heap.size ∧ Below w.heap.size w w'
theorem seqB_new (w : World) (b : Nat) (bs : List UInt8) (hl : bs.length ≤ 1048576) (hb : Has w b 5 (byts bs).toArray) :
    SeqB (w.alloc (.cells #[.slice (some ⟨b, 0, none⟩) bs.length bs.length, .int .i64 0, .int .i64 (bs.length : Int)] 44)) w.heap.size b bs := by
  refine ⟨some ⟨b, 0, none⟩, bs, 0, Has.new _ _ _, fun _ => ⟨rfl, hb.alloc _⟩, .inr rfl, Nat.le_refl _, hl, ?_⟩
  have := rb_zero bs []
  simpa using this
theorem all_any (g r room : Nat) (bs : List UInt8) (w : World) (h : Qu w g r room bs) :
    Calls Tryd.prog 18 #[.pointer (some ⟨g, 0, none⟩)] w (AllOf bs w) := by
  have hn := Lib.hid (none_no g w h.c4)
  have hs := h.small
  obtain ⟨A, cs, s, hq, hr⟩ := h
  have ha := Lib.hid (apart_any g r A cs s bs.length w hq.stk)
  rw [hr] at ha
  clear hq hr
  go_enter Tryd.func18, Tryd.ntmps18
  go_wp2_with (first | (go_at_call 24; refine hn.out.mono ?_; rintro e w' ⟨rfl, rfl⟩) | (go_at_call 25; refine ha.out.mono ?_; rintro e w2 ⟨b, rfl, m2, hb2, hB2⟩; have m2' := Lib.hid m2; have hB2' := Lib.hid hB2; clear m2 hB2) | (go_at_call 30; refine (each_any _ _ _ _).mono ?_; rintro e w3 ⟨rfl, rfl⟩))
  go_ret
  exact ⟨w2.heap.size, b, rfl, seqB_new w2 b bs (by omega) m2'.out, hB2'.out.size, hb2, by have := m2'.out.lt; simp; omega, hB2'.out.alloc hB2'.out.size _⟩
theorem all_none (v : Option Addr) (w : World) (h : NoQ w v) :
    Calls Tryd.prog 18 #[.pointer v] w (AllOf [] w) := by
  have hn := Lib.hid (none_yes v w h)
  clear h
  go_enter Tryd.func18, Tryd.ntmps18
  go_wp2_with (first | (go_at_call 24; refine hn.out.mono ?_; rintro e w' ⟨rfl, rfl⟩) | (go_at_call 30; refine (each_any _ _ _ _).mono ?_; rintro e w3 ⟨rfl, rfl⟩))
  go_ret
  exact ⟨w.heap.size, w.heap.size, rfl, ⟨none, [], 0, Has.new _ _ _, fun h => absurd h (by simp), .inr rfl, Nat.le_refl _, by simp, rfl⟩, Nat.le_refl _, Nat.le_refl _, by simp, (Below.refl _ _).alloc (Nat.le_refl _) _⟩
theorem copy_none (v : Option Addr) (w : World) (h : NoQ w v) :
    Calls Tryd.prog 13 #[.pointer v] w fun e w' => e = .returned (.pointer none) ∧ w = w' := by
  have hn := Lib.hid (none_yes v w h)
  clear h
  go_enter Tryd.func13, Tryd.ntmps13
  go_wp2_with (go_at_call 24; refine hn.out.mono ?_; rintro e w' ⟨rfl, rfl⟩)
  go_ret
  exact ⟨rfl, rfl⟩
def CopyOf (room : Nat) (bs : List UInt8) (w : World) (e : Ending) (w' : World) : Prop :=
  ∃ k r, e = .returned (.pointer (some ⟨k, 0, none⟩)) ∧ Qu w' k r room bs ∧ w.heap.size ≤ k ∧ w.heap.size ≤ r ∧ r < w'.heap.size ∧ Below w.heap.size w w'
set_option maxHeartbeats 800000 in
theorem copy_any (g r room : Nat) (bs : List UInt8) (w : World) (h : Qu w g r room bs) :
    Calls Tryd.prog 13 #[.pointer (some ⟨g, 0, none⟩)] w (CopyOf room bs w) := by
  have hn := Lib.hid (none_no g w h.c4)
  have hs := h.small
  have hlt := h.lt
  have d3 : w.drew.cell? ⟨g, 3, none⟩ = some (.int .i64 (room : Int)) := h.c3
  obtain ⟨A, cs, s, hq, hr⟩ := h
  have ha := Lib.hid (apart_any g r A cs s bs.length w.drew (hq.stk.kept rfl (fun _ => rfl)))
  rw [hr] at ha
  clear hq hr
  go_enter Tryd.func13, Tryd.ntmps13
  go_wp2_with (go_at_call 24; refine hn.out.mono ?_; rintro e w' ⟨rfl, rfl⟩)
  go_region_held3 (fun w' => w'.cell? ⟨g, 3, none⟩ = some (.int .i64 (room : Int)))
    (first | exact d3 | exact hS2 | (rw [World.cell?_alloc_lt _ _ _ hlt2]; exact hS2))
    (first | (go_at_call 25; refine ha.out.mono ?_; rintro e w2 ⟨b, rfl, m2, hb2, hB2⟩; have m2' := Lib.hid m2; have hB2' : Hid (Below w.heap.size w w2) := ⟨hB2.os, hB2.tape, hB2.output, hB2.size, hB2.block⟩; have hS2 := (hB2.cell (p := ⟨g, 3, none⟩) hlt).trans d3; have hlt2 := Nat.lt_of_lt_of_le hlt hB2.size; clear m2 hB2))
  go_wp2
  go_ret
  exact ⟨w2.heap.size, b, rfl, ⟨some ⟨b, 0, none⟩, bs, 0, ⟨Has.new _ _ _, fun _ => ⟨rfl, m2'.out.alloc _⟩, fun _ => by have := m2'.out.lt; omega, .inr rfl, Nat.le_refl _, hs.1, hs.2⟩, by simpa using rb_zero bs []⟩, hB2'.out.size, hb2, by have := m2'.out.lt; simp; omega, hB2'.out.alloc hB2'.out.size _⟩
end Go.Proofs.YtfblkfjjpnnhhaaDoor
