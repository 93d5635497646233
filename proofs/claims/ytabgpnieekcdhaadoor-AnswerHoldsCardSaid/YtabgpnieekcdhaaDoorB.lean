import Derived.RangeFuncNested
import Derived.RangeFuncBox
import Derived.RangeFuncBound
import Derived.RangeFuncCalls
import Derived.RangeFuncLeaves
import Derived.Shelf.Abstract
import Derived.Shelf.RegionOpen
import Derived.WalkKit
import Derived.OwnWalkIn
import Derived.TacticsInMore
import Derived.LoopNIn
import Derived.LoopIn
import Derived.Lib.Hide
import Derived.Test.YtabgpnieekcdhaaDoorA
import Derived.Test.YtabgpnieekcdhaaDoorL
namespace Go.Proofs.YtabgpnieekcdhaaDoor
open Go.RowKit Go.Shelf
attribute [local go_sem] Oper.semAt_some
theorem wide_fn (f : FuncId) : Fence.wide.fn f = True := rfl
theorem wide_depth : Fence.wide.depth.isSome = false := rfl
theorem wide_round (l : Nat) (f : FuncId) : (Fence.wide.inRound l).fn f = True := rfl
attribute [local go_sem] wide_fn wide_depth wide_round

/-! ## Digits -/
def upto {α : Type} (f : Nat → α) (k : Nat) : List α := (List.range k).map f
theorem upto_succ {α : Type} (f : Nat → α) (k : Nat) : upto f (k + 1) = upto f k ++ [f k] := by simp [upto, List.range_succ]
theorem upto_length {α : Type} (f : Nat → α) (k : Nat) : (upto f k).length = k := by simp [upto]

/-- The sign of a digit. -/
def sgn (d : Nat) : UInt8 := if d < 10 then UInt8.ofNat (48 + d) else UInt8.ofNat (87 + d)
def digAt (b n k : Nat) : Nat := n / b ^ k % b
/-- What Each's like tells at a place: what the digit is worth. -/
def tell (b n k : Nat) : Nat × Fin 16 := (k, ⟨digAt b n k % 16, Nat.mod_lt _ (by omega)⟩)
def IsLen (b n K : Nat) : Prop := 1 ≤ K ∧ n / b ^ K = 0 ∧ (K = 1 ∨ n / b ^ (K - 1) ≠ 0)

def encDig (x : Nat × Fin 16) : Array Value := #[.int .i64 (x.1 : Int), .int .u8 (x.2.val : Int)]

theorem signs_get (d : Nat) (h : d < (⟨#[48, 49, 50, 51, 52, 53, 54, 55, 56, 57, 97, 98, 99, 100, 101, 102]⟩ : ByteArray).size) :
    (⟨#[48, 49, 50, 51, 52, 53, 54, 55, 56, 57, 97, 98, 99, 100, 101, 102]⟩ : ByteArray)[d]'h = sgn d := by
  have h' : d < 16 := h
  have : ∀ d : Fin 16, (⟨#[48, 49, 50, 51, 52, 53, 54, 55, 56, 57, 97, 98, 99, 100, 101, 102]⟩ : ByteArray)[d.1]'d.2 = sgn d.1 := by decide
  exact this ⟨d, h'⟩
theorem isLen_small {b x k : Nat} (hb : b = 10 ∨ b = 16) (hx : x < 18446744073709551616) (h : x / b ^ k ≠ 0) : k < 20 := by
  rcases Nat.lt_or_ge k 20 with h' | h'
  · exact h'
  · exfalso
    apply h
    apply Nat.div_eq_of_lt
    have h10 : 10 ^ 20 ≤ b ^ k := by
      rcases hb with rfl | rfl
      · exact Nat.pow_le_pow_right (by omega) h'
      · exact Nat.le_trans (Nat.pow_le_pow_left (by omega) 20) (Nat.pow_le_pow_right (by omega) h')
    omega

set_option maxRecDepth 100000 in
set_option maxHeartbeats 1000000 in
theorem digits1_in (n : Nat) (hn : 1 ≤ n) (b x l B1 B2 : Nat) (hb : b = 10 ∨ b = 16) (hx : x < 18446744073709551616) (J Jx : List (Nat × Fin 16) → World → Prop)
    (hY : ∀ pre y W, J pre W → pre.length < 20 → YieldAt Fence.wide (n - 1) Tryd.prog l (encDig y) W fun e W' =>
      (e = .returned (.bool true) ∧ J (pre ++ [y]) W' ∧ Kept (· = B2) W W') ∨ (e = .returned (.bool false) ∧ Jx (pre ++ [y]) W'))
    (W : World) (h1 : Has W B1 58 #[.int .u64 x]) (h2 : Has W B2 58 #[.int .u64 b]) (h0 : J [] W) :
    CallsIn Fence.wide n Tryd.prog 70 #[.func (.yield l) #[] #[], .pointer (some ⟨B1, 0, none⟩), .pointer (some ⟨B2, 0, none⟩)] W fun e W' => (∃ v, e = .returned v) ∧
      ((∃ ys, (∃ K, IsLen b x K ∧ ys = upto (tell b x) K) ∧ J ys W') ∨ (∃ pre, (∃ k, (k = 0 ∨ x / b ^ k ≠ 0) ∧ pre = upto (tell b x) (k + 1)) ∧ Jx pre W')) := by
  refine callsIn_of_wp Tryd.func70 rfl trivial ?_ rfl
  simp only [Tryd.ntmps70, List.size_toArray, List.length_cons, List.length_nil, Nat.reduceAdd, Nat.reduceSub, Array.replicate_succ, Array.replicate_zero, List.push_toArray, List.append_toArray, List.nil_append, List.cons_append]
  have c1 := h1.cell 0
  gi_wp2
  gi_loopw [4, 5] (fun t i wr => ∃ k m : Nat, k < 20 ∧ i = .int .i64 k ∧ t = .int .u64 (m : Int) ∧ m = x / b ^ k ∧ (k = 0 ∨ m ≠ 0) ∧ J (upto (tell b x) k) wr ∧ Has wr B2 58 #[.int .u64 b])
    (fun _ i _ => 20 - (intOf i).toNat)
  case atStart => exact ⟨0, x, by omega, rfl, rfl, by simp, .inl rfl, h0, h2⟩
  case round =>
    obtain ⟨k, m, hk, rfl, rfl, hm, hne, hJs, hB⟩ := hrel
    have c2 := hB.cell 0
    obtain ⟨fn, tmps, assign, body, hy, hR⟩ := hY _ (tell b x k) wr hJs (by rw [upto_length]; exact hk)
    have hm' := Lib.hid hm
    have hmx : m < 18446744073709551616 := by rw [hm]; exact Nat.lt_of_le_of_lt (Nat.div_le_self _ _) hx
    have hw : digAt b x k % 16 = m % b := by
      rw [digAt, ← hm]
      exact Nat.mod_eq_of_lt (by rcases hb with rfl | rfl <;> omega)
    have hy' : (Instr.yield l #[.int .i64 k, .int .u8 ((m % b : Nat) : Int)]).run Tryd.prog wr = .ok (Next.round l fn tmps assign body) wr := by
      rw [← hw]; exact hy
    clear hw
    have hR' := Lib.hid hR
    have hne' := Lib.hid hne
    clear hy hR hm hne hY
    have hd : (m / b : Nat) = x / b ^ (k + 1) := by rw [hm'.out, Nat.div_div_eq_div_mul, Nat.pow_succ]
    have hd' := Lib.hid hd
    clear hd
    have hb' := Lib.hid hb
    rcases hb with rfl | rfl
    all_goals
      gi_wp2
      first | rw [show ((m : Int) % 10) = ((m % 10 : Nat) : Int) from by omega] | rw [show ((m : Int) % 16) = ((m % 16 : Nat) : Int) from by omega]
      rw [hy']
      gi_wp2
      refine hR'.out.mono ?_
      rintro e W3 (⟨rfl, hJ3, hk3⟩ | ⟨rfl, hJx3⟩)
      · have hB3 := hk3.has rfl hB
        have c3 := hB3.cell 0
        have hJ4 := Lib.hid hJ3
        gi_wp2
        · have hz := ‹(_ == (0 : Int)) = true›
          rw [beq_iff_eq] at hz
          refine bodyPost_ret (results_none rfl _ _ _) rfl ?_
          refine ⟨⟨_, rfl⟩, .inl ⟨_, ⟨k + 1, ⟨by omega, ?_, ?_⟩, rfl⟩, by rw [upto_succ]; exact hJ4.out⟩⟩
          · rw [← hd'.out]; omega
          · rcases hne'.out with h | h
            · exact .inl (by omega)
            · exact .inr (by rw [show k + 1 - 1 = k from by omega, ← hm'.out]; exact h)
        · have hz := ‹(_ == (0 : Int)) = false›
          rw [beq_eq_false_iff_ne] at hz
          refine ⟨⟨k + 1, _, ?_, by go_num, by go_num, hd'.out, .inr ?_, by rw [upto_succ]; exact hJ4.out, hB3⟩, by simp [intOf]; omega⟩
          · first | exact isLen_small (.inl rfl) hx (by rw [← hd'.out]; omega) | exact isLen_small (.inr rfl) hx (by rw [← hd'.out]; omega)
          · omega
      · gi_wp2
        go_end0
        exact ⟨⟨_, rfl⟩, .inr ⟨_, ⟨k, by rcases hne'.out with h | h; exact .inl h; exact .inr (by rw [← hm'.out]; exact h), (upto_succ _ _).symm⟩, hJx3⟩⟩

/-- **The sequence of a number's digits.** -/
theorem digits_stops (n : Nat) (hn : 1 ≤ n) (b x B1 B2 : Nat) (hb : b = 10 ∨ b = 16) (hx : x < 18446744073709551616) (w : World)
    (h1 : Has w B1 58 #[.int .u64 x]) (h2 : Has w B2 58 #[.int .u64 b]) :
    SeqStopsK Fence.wide n Tryd.prog 70 #[.pointer (some ⟨B1, 0, none⟩), .pointer (some ⟨B2, 0, none⟩)] encDig (Kept (· = B2)) (fun ys => ∃ K, IsLen b x K ∧ ys = upto (tell b x) K)
      (fun pre => ∃ k, (k = 0 ∨ x / b ^ k ≠ 0) ∧ pre = upto (tell b x) (k + 1)) 20 w := fun l J Jx W hW _ _ hY h0 =>
  digits1_in n hn b x l B1 B2 hb hx J Jx hY W (h1.below hW h1.lt) (h2.below hW h2.lt) h0

set_option maxHeartbeats 400000 in
theorem digits_in (n : Nat) (x b : Int) (w : World) :
    CallsIn Fence.wide n Tryd.prog 59 #[.int .u64 x, .int .u64 b] w fun e w' =>
      e = .returned (.func (.func 70) #[] #[.pointer (some ⟨w.heap.size, 0, none⟩), .pointer (some ⟨w.heap.size + 1, 0, none⟩)]) ∧ w' = (w.alloc (.cells #[.int .u64 x] 58)).alloc (.cells #[.int .u64 b] 58) := by
  refine callsIn_of_wp Tryd.func59 rfl trivial ?_ rfl
  simp only [Tryd.ntmps59, List.size_toArray, List.length_cons, List.length_nil, Nat.reduceAdd, Nat.reduceSub, Array.replicate_succ, Array.replicate_zero, List.push_toArray, List.append_toArray, List.nil_append, List.cons_append]
  gi_wp2
  go_ret
  exact ⟨rfl, rfl⟩

end Go.Proofs.YtabgpnieekcdhaaDoor
