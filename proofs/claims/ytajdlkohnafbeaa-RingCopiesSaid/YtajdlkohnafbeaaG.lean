import Derived.Test.YtajdlkohnafbeaaF
import Derived.Test.YtajdlkohnafbeaaR
import Derived.RangeFuncNested
import Derived.RangeFuncBox
import Derived.RangeFuncBound
import Derived.RangeFuncCalls
import Derived.OwnWalkIn
import Derived.TacticsInMore
import Derived.LoopNIn
import Derived.LoopIn
import Derived.Stop.RegionWithIn
namespace Go.Proofs.Ytajdlkohnafbeaa
open Go.RowKit
attribute [local go_sem] Oper.semAt_some
theorem wide_fn (f : FuncId) : Fence.wide.fn f = True := rfl
theorem wide_depth : Fence.wide.depth.isSome = false := rfl
theorem wide_round (l : Nat) (f : FuncId) : (Fence.wide.inRound l).fn f = True := rfl
attribute [local go_sem] wide_fn wide_depth wide_round

/-! ## Values, one by one -/
/-- The first k numbers below n. -/
def firsts (n k : Nat) : List (Fin n) := (List.finRange n).take k
theorem firsts_succ {n k : Nat} (h : k < n) : firsts n (k + 1) = firsts n k ++ [⟨k, h⟩] := by
  unfold firsts
  rw [List.take_succ_eq_append_getElem (by rw [List.length_finRange]; exact h), List.getElem_finRange]
  rfl
theorem firsts_length {n k : Nat} (h : k ≤ n) : (firsts n k).length = k := by unfold firsts; rw [List.length_take, List.length_finRange]; omega
/-- What is told of the i-th value: its index, and the value. -/
def encAt (s : Nat) (zs : List Int) (i : Fin zs.length) : Array Value := #[.int .u64 ((s + i.val : Nat) : Int), .int .i64 zs[i.val]]
/-- The blocks that are read while it is gone over. -/
def Its (k b1 b2 b : Nat) : Prop := b = k ∨ b = k + 1 ∨ b = b1 ∨ b = b2
section
variable {W W' : World} {k b1 b2 s : Nat} {zs : List Int}
theorem SeqR.kept (h : SeqR W k b1 b2 s zs) (hk : Kept (Its k b1 b2) W W') : SeqR W' k b1 b2 s zs := by
  obtain ⟨A, c, B, d, h1, h2, h3, h4⟩ := h
  exact ⟨A, c, B, d, hk.has (.inl rfl) h1, hk.has (.inr (.inl rfl)) h2, fun hl => ⟨(h3 hl).1, hk.has (.inr (.inr (.inl rfl))) (h3 hl).2.1, (h3 hl).2.2.1, hk.has (.inr (.inr (.inr rfl))) (h3 hl).2.2.2⟩, h4⟩
theorem SeqR.below (h : SeqR W k b1 b2 s zs) (hb : Below W.heap.size W W') : SeqR W' k b1 b2 s zs := by
  obtain ⟨A, c, B, d, h1, h2, h3, h4⟩ := h
  exact ⟨A, c, B, d, h1.below hb h1.lt, h2.below hb h2.lt, fun hl => ⟨(h3 hl).1, (h3 hl).2.1.below hb (h3 hl).2.1.lt, (h3 hl).2.2.1, (h3 hl).2.2.2.below hb (h3 hl).2.2.2.lt⟩, h4⟩
end
/-- A round's answer, by a Bool. -/
def YPost {α : Type} (J Jx : List α → World → Prop) (K : World → World → Prop) (ys : List α) (W : World) (b : Bool) (W' : World) : Prop := if b = true then J ys W' ∧ K W W' else Jx ys W'

set_option maxRecDepth 100000 in
set_option maxHeartbeats 1000000 in
theorem each1_in (n : Nat) (hn : 1 ≤ n) (s : Nat) (zs : List Int) (l k b1 b2 : Nat) (J Jx : List (Fin zs.length) → World → Prop)
    (hY : ∀ pre y W, J pre W → pre.length < zs.length → YieldAt Fence.wide (n - 1) Try.prog l (encAt s zs y) W fun e W' =>
      (e = .returned (.bool true) ∧ J (pre ++ [y]) W' ∧ Kept (Its k b1 b2) W W') ∨ (e = .returned (.bool false) ∧ Jx (pre ++ [y]) W'))
    (W : World) (h : SeqR W k b1 b2 s zs) (h0 : J [] W) :
    CallsIn Fence.wide n Try.prog 45 #[.func (.yield l) #[] #[], .pointer (some ⟨k, 0, none⟩), .pointer (some ⟨k + 1, 0, none⟩)] W fun e W' => (∃ v, e = .returned v) ∧
      ((∃ ys, ys = firsts zs.length zs.length ∧ J ys W') ∨ (∃ pre, (∃ k, k < zs.length ∧ pre = firsts zs.length (k + 1)) ∧ Jx pre W')) := by
  refine callsIn_of_wp Try.func45 rfl trivial ?_ rfl
  simp only [Try.ntmps45, List.size_toArray, List.length_cons, List.length_nil, Nat.reduceAdd, Nat.reduceSub, Array.replicate_succ, Array.replicate_zero, List.push_toArray, List.append_toArray, List.nil_append, List.cons_append]
  obtain ⟨A, c, B, d, h1, h2, h3, h4⟩ := h
  have c0 : W.cell? ⟨k, 0, none⟩ = some (.slice A zs.length c) := h1.cell 0
  have h2' := Lib.hid h2
  have h3' := Lib.hid h3
  have hz4 : zs.length ≤ 4096 := h4.1
  clear h1 h2 h3 h4
  gi_wp2
  gi_loopw [8] (fun i wr => ∃ j : Nat, j ≤ zs.length ∧ i = .int .i64 j ∧ J (firsts zs.length j) wr ∧ Kept (Its k b1 b2) W wr)
    (fun i _ => zs.length - (intOf i).toNat)
  case atStart => exact ⟨0, Nat.zero_le _, rfl, h0, Kept.refl _ _⟩
  case round =>
    obtain ⟨j, hj, rfl, hJs, hK⟩ := hrel
    by_cases hlt : j < zs.length
    · have hK' := Lib.hid hK
      obtain ⟨fn, tmps, assign, body, hy, hR⟩ := hY _ ⟨j, hlt⟩ wr hJs (by rw [firsts_length (by omega)]; exact hlt)
      obtain ⟨rfl, hh1, rfl, hh2⟩ := h3'.out (by omega)
      have hbw : Has wr (k + 1) _ _ := hK.has (.inr (.inl rfl)) h2'.out
      have d0 : wr.cell? ⟨k + 1, 0, none⟩ = some (.slice (some ⟨b2, 0, none⟩) zs.length d) := hbw.cell 0
      have hi1 : Has wr b1 _ _ := hK.has (.inr (.inr (.inl rfl))) hh1
      have hi2 : Has wr b2 _ _ := hK.has (.inr (.inr (.inr rfl))) hh2
      obtain ⟨x, hx⟩ : ∃ x, s + j = x := ⟨_, rfl⟩
      have e1 : wr.cell? ⟨b1, j, none⟩ = some (.int .u64 (x : Int)) := by rw [hi1.cell, idxs_at hlt, hx]
      have e2 : wr.cell? ⟨b2, j, none⟩ = some (.int .i64 (zs[j]'hlt)) := by rw [hi2.cell]; simp [ints, hlt]
      have hR2 := Lib.hid (hR.mono (R' := fun e W' => ∃ b, e = .returned (.bool b) ∧ YPost J Jx (Kept (Its k b1 b2)) (firsts zs.length (j + 1)) wr b W') (by
        rintro e W' (⟨rfl, h1, h2⟩ | ⟨rfl, h1⟩)
        · exact ⟨true, rfl, by rw [firsts_succ hlt]; exact ⟨h1, h2⟩⟩
        · exact ⟨false, rfl, by rw [firsts_succ hlt]; exact h1⟩))
      have hy' : (Instr.yield l #[.int .u64 (x : Int), .int .i64 (zs[j]'hlt)]).run Try.prog wr = .ok (Next.round l fn tmps assign body) wr := by rw [← hx]; exact hy
      clear hy hx
      generalize (zs[j]'hlt) = z at e2 hy'
      clear hR hY hbw hi1 hi2 hh1 hh2 hJs hK
      gi_wp2
      refine hR2.out.mono ?_
      rintro e W3 ⟨b, rfl, hP⟩
      cases b
      · have hP' := Lib.hid (show Jx (firsts zs.length (j + 1)) W3 from hP)
        clear hP
        gi_wp2
        refine bodyPost_ret (results_none rfl _ _ _) rfl ?_
        exact ⟨⟨_, rfl⟩, .inr ⟨_, ⟨j, hlt, rfl⟩, hP'.out⟩⟩
      · have hP' := Lib.hid (show J (firsts zs.length (j + 1)) W3 ∧ Kept (Its k b1 b2) wr W3 from hP)
        clear hP
        gi_wp2
        exact ⟨⟨j + 1, by omega, by go_num, hP'.out.1, hK'.out.trans hP'.out.2⟩, by simp [intOf]; omega⟩
    · obtain rfl : j = zs.length := by omega
      gi_wp2
      go_end0
      exact ⟨⟨_, rfl⟩, .inl ⟨_, rfl, hJs⟩⟩
theorem each_stops (n : Nat) (hn : 1 ≤ n) (s : Nat) (zs : List Int) (k b1 b2 : Nat) (w : World) (h : SeqR w k b1 b2 s zs) :
    SeqStopsK Fence.wide n Try.prog 45 #[.pointer (some ⟨k, 0, none⟩), .pointer (some ⟨k + 1, 0, none⟩)] (encAt s zs) (Kept (Its k b1 b2)) (fun ys => ys = firsts zs.length zs.length)
      (fun pre => ∃ k, k < zs.length ∧ pre = firsts zs.length (k + 1)) zs.length w := fun l J Jx W hW _ _ hY h0 =>
  each1_in n hn s zs l k b1 b2 J Jx hY W (h.below hW) h0
end Go.Proofs.Ytajdlkohnafbeaa
