import Derived.RangeFuncNested
import Derived.RangeFuncBox
import Derived.RangeFuncBound
import Derived.RangeFuncCalls
import Derived.RangeFuncLeaves
import Derived.Shelf.Abstract
import Derived.Shelf.RegionOpen
import Derived.WalkKit
import Derived.OwnWalkIn
import Derived.TacticsInMore
import Derived.LoopNIn
import Derived.LoopIn
import Derived.Lib.Hide
import Derived.Test.YtcogdfgmmpfkkaaGreatDoorPk3
import Derived.Test.YtcogdfgmmpfkkaaGreatDoorPk1
import Derived.BigRegionIn
import Derived.BigQuiet
import Derived.Deep.QuietTactic
import Derived.ScopeJumps
import Derived.WalkMore
import Derived.Laws.EntriesVeiled
namespace Go.Proofs.YtcogdfgmmpfkkaaGreatDoor
open Go.RowKit Go.Shelf
attribute [local go_sem] Oper.semAt_some
theorem wide_fn (f : FuncId) : Fence.wide.fn f = True := rfl
theorem wide_depth : Fence.wide.depth.isSome = false := rfl
theorem wide_round (l : Nat) (f : FuncId) : (Fence.wide.inRound l).fn f = True := rfl
attribute [local go_sem] wide_fn wide_depth wide_round

/-! ## Digits -/
def upto {α : Type} (f : Nat → α) (k : Nat) : List α := (List.range k).map f
theorem upto_succ {α : Type} (f : Nat → α) (k : Nat) : upto f (k + 1) = upto f k ++ [f k] := by simp [upto, List.range_succ]
theorem upto_length {α : Type} (f : Nat → α) (k : Nat) : (upto f k).length = k := by simp [upto]

/-- The sign of a digit. -/
def sgn (d : Nat) : UInt8 := if d < 10 then UInt8.ofNat (48 + d) else UInt8.ofNat (87 + d)
def digAt (b n k : Nat) : Nat := n / b ^ k % b
/-- What Each's like tells at a place: what the digit is worth. -/
def tell (b n k : Nat) : Nat × Fin 16 := (k, ⟨digAt b n k % 16, Nat.mod_lt _ (by omega)⟩)
def IsLen (b n K : Nat) : Prop := 1 ≤ K ∧ n / b ^ K = 0 ∧ (K = 1 ∨ n / b ^ (K - 1) ≠ 0)

def encDig (x : Nat × Fin 16) : Array Value := #[.int .i64 (x.1 : Int), .int .u8 (x.2.val : Int)]

theorem signs_get (d : Nat) (h : d < (⟨#[48, 49, 50, 51, 52, 53, 54, 55, 56, 57, 97, 98, 99, 100, 101, 102]⟩ : ByteArray).size) :
    (⟨#[48, 49, 50, 51, 52, 53, 54, 55, 56, 57, 97, 98, 99, 100, 101, 102]⟩ : ByteArray)[d]'h = sgn d := by
  have h' : d < 16 := h
  have : ∀ d : Fin 16, (⟨#[48, 49, 50, 51, 52, 53, 54, 55, 56, 57, 97, 98, 99, 100, 101, 102]⟩ : ByteArray)[d.1]'d.2 = sgn d.1 := by decide
  exact this ⟨d, h'⟩
theorem isLen_small {b x k : Nat} (hb : b = 10 ∨ b = 16) (hx : x < 18446744073709551616) (h : x / b ^ k ≠ 0) : k < 20 := by
  rcases Nat.lt_or_ge k 20 with h' | h'
  · exact h'
  · exfalso
    apply h
    apply Nat.div_eq_of_lt
    have h10 : 10 ^ 20 ≤ b ^ k := by
      rcases hb with rfl | rfl
      · exact Nat.pow_le_pow_right (by omega) h'
      · exact Nat.le_trans (Nat.pow_le_pow_left (by omega) 20) (Nat.pow_le_pow_right (by omega) h')
    omega

set_option maxRecDepth 100000 in
set_option maxHeartbeats 1000000 in
theorem digits1_in (n : Nat) (hn : 1 ≤ n) (b x l B1 B2 : Nat) (hb : b = 10 ∨ b = 16) (hx : x < 18446744073709551616) (J Jx : List (Nat × Fin 16) → World → Prop)
    (hY : ∀ pre y W, J pre W → pre.length < 20 → YieldAt Fence.wide (n - 1) Tryz.prog l (encDig y) W fun e W' =>
      (e = .returned (.bool true) ∧ J (pre ++ [y]) W' ∧ Kept (· = B2) W W') ∨ (e = .returned (.bool false) ∧ Jx (pre ++ [y]) W'))
    (W : World) (h1 : Has W B1 60 #[.int .u64 x]) (h2 : Has W B2 60 #[.int .u64 b]) (h0 : J [] W) :
    CallsIn Fence.wide n Tryz.prog 109 #[.func (.yield l) #[] #[], .pointer (some ⟨B1, 0, none⟩), .pointer (some ⟨B2, 0, none⟩)] W fun e W' => (∃ v, e = .returned v) ∧
      ((∃ ys, (∃ K, IsLen b x K ∧ ys = upto (tell b x) K) ∧ J ys W') ∨ (∃ pre, (∃ k, (k = 0 ∨ x / b ^ k ≠ 0) ∧ pre = upto (tell b x) (k + 1)) ∧ Jx pre W')) := by
  refine callsIn_of_wp Tryz.func109 rfl trivial ?_ rfl
  simp only [Tryz.ntmps109, List.size_toArray, List.length_cons, List.length_nil, Nat.reduceAdd, Nat.reduceSub, Array.replicate_succ, Array.replicate_zero, List.push_toArray, List.append_toArray, List.nil_append, List.cons_append]
  have c1 := h1.cell 0
  gi_wp2
  gi_loopw [4, 5] (fun t i wr => ∃ k m : Nat, k < 20 ∧ i = .int .i64 k ∧ t = .int .u64 (m : Int) ∧ m = x / b ^ k ∧ (k = 0 ∨ m ≠ 0) ∧ J (upto (tell b x) k) wr ∧ Has wr B2 60 #[.int .u64 b])
    (fun _ i _ => 20 - (intOf i).toNat)
  case atStart => exact ⟨0, x, by omega, rfl, rfl, by simp, .inl rfl, h0, h2⟩
  case round =>
    obtain ⟨k, m, hk, rfl, rfl, hm, hne, hJs, hB⟩ := hrel
    have c2 := hB.cell 0
    obtain ⟨fn, tmps, assign, body, hy, hR⟩ := hY _ (tell b x k) wr hJs (by rw [upto_length]; exact hk)
    have hm' := Lib.hid hm
    have hmx : m < 18446744073709551616 := by rw [hm]; exact Nat.lt_of_le_of_lt (Nat.div_le_self _ _) hx
    have hw : digAt b x k % 16 = m % b := by
      rw [digAt, ← hm]
      exact Nat.mod_eq_of_lt (by rcases hb with rfl | rfl <;> omega)
    have hy' : (Instr.yield l #[.int .i64 k, .int .u8 ((m % b : Nat) : Int)]).run Tryz.prog wr = .ok (Next.round l fn tmps assign body) wr := by
      rw [← hw]; exact hy
    clear hw
    have hR' := Lib.hid hR
    have hne' := Lib.hid hne
    clear hy hR hm hne hY
    have hd : (m / b : Nat) = x / b ^ (k + 1) := by rw [hm'.out, Nat.div_div_eq_div_mul, Nat.pow_succ]
    have hd' := Lib.hid hd
    clear hd
    have hb' := Lib.hid hb
    rcases hb with rfl | rfl
    all_goals
      gi_wp2
      first | rw [show ((m : Int) % 10) = ((m % 10 : Nat) : Int) from by omega] | rw [show ((m : Int) % 16) = ((m % 16 : Nat) : Int) from by omega]
      rw [hy']
      gi_wp2
      refine hR'.out.mono ?_
      rintro e W3 (⟨rfl, hJ3, hk3⟩ | ⟨rfl, hJx3⟩)
      · have hB3 := hk3.has rfl hB
        have c3 := hB3.cell 0
        have hJ4 := Lib.hid hJ3
        gi_wp2
        · have hz := ‹(_ == (0 : Int)) = true›
          rw [beq_iff_eq] at hz
          refine bodyPost_ret (results_none rfl _ _ _) rfl ?_
          refine ⟨⟨_, rfl⟩, .inl ⟨_, ⟨k + 1, ⟨by omega, ?_, ?_⟩, rfl⟩, by rw [upto_succ]; exact hJ4.out⟩⟩
          · rw [← hd'.out]; omega
          · rcases hne'.out with h | h
            · exact .inl (by omega)
            · exact .inr (by rw [show k + 1 - 1 = k from by omega, ← hm'.out]; exact h)
        · have hz := ‹(_ == (0 : Int)) = false›
          rw [beq_eq_false_iff_ne] at hz
          refine ⟨⟨k + 1, _, ?_, by go_num, by go_num, hd'.out, .inr ?_, by rw [upto_succ]; exact hJ4.out, hB3⟩, by simp [intOf]; omega⟩
          · first | exact isLen_small (.inl rfl) hx (by rw [← hd'.out]; omega) | exact isLen_small (.inr rfl) hx (by rw [← hd'.out]; omega)
          · omega
      · gi_wp2
        go_end0
        exact ⟨⟨_, rfl⟩, .inr ⟨_, ⟨k, by rcases hne'.out with h | h; exact .inl h; exact .inr (by rw [← hm'.out]; exact h), (upto_succ _ _).symm⟩, hJx3⟩⟩

/-- **The sequence of a number's digits.** -/
theorem digits_stops (n : Nat) (hn : 1 ≤ n) (b x B1 B2 : Nat) (hb : b = 10 ∨ b = 16) (hx : x < 18446744073709551616) (w : World)
    (h1 : Has w B1 60 #[.int .u64 x]) (h2 : Has w B2 60 #[.int .u64 b]) :
    SeqStopsK Fence.wide n Tryz.prog 109 #[.pointer (some ⟨B1, 0, none⟩), .pointer (some ⟨B2, 0, none⟩)] encDig (Kept (· = B2)) (fun ys => ∃ K, IsLen b x K ∧ ys = upto (tell b x) K)
      (fun pre => ∃ k, (k = 0 ∨ x / b ^ k ≠ 0) ∧ pre = upto (tell b x) (k + 1)) 20 w := fun l J Jx W hW _ _ hY h0 =>
  digits1_in n hn b x l B1 B2 hb hx J Jx hY W (h1.below hW h1.lt) (h2.below hW h2.lt) h0

set_option maxHeartbeats 400000 in
theorem digits_in (n : Nat) (x b : Int) (w : World) :
    CallsIn Fence.wide n Tryz.prog 97 #[.int .u64 x, .int .u64 b] w fun e w' =>
      e = .returned (.func (.func 109) #[] #[.pointer (some ⟨w.heap.size, 0, none⟩), .pointer (some ⟨w.heap.size + 1, 0, none⟩)]) ∧ w' = (w.alloc (.cells #[.int .u64 x] 60)).alloc (.cells #[.int .u64 b] 60) := by
  refine callsIn_of_wp Tryz.func97 rfl trivial ?_ rfl
  simp only [Tryz.ntmps97, List.size_toArray, List.length_cons, List.length_nil, Nat.reduceAdd, Nat.reduceSub, Array.replicate_succ, Array.replicate_zero, List.push_toArray, List.append_toArray, List.nil_append, List.cons_append]
  gi_wp2
  go_ret
  exact ⟨rfl, rfl⟩

end Go.Proofs.YtcogdfgmmpfkkaaGreatDoor

namespace Go.Proofs.YtcogdfgmmpfkkaaGreatDoor
open Go.RowKit Go.Shelf
attribute [local go_sem] Oper.semAt_some
attribute [local go_sem] wide_fn wide_depth wide_round

/-- What a number's text has: its digits' signs, the highest one ahead. -/
def txt (b x K : Nat) : List UInt8 := (upto (fun k => sgn (digAt b x k)) K).reverse

/-- The room in which the digits are written, from its end on. -/
def room (pre : List (Nat × Fin 16)) : Array Value := ((List.replicate (20 - pre.length) (Value.int .u8 0)) ++ (pre.map fun y => Value.int .u8 ((sgn y.2.val).toNat : Int)).reverse).toArray

theorem room_snoc (pre : List (Nat × Fin 16)) (y : Nat × Fin 16) (h : pre.length < 20) : room (pre ++ [y]) = (room pre).setIfInBounds (20 - pre.length - 1) (.int .u8 ((sgn y.2.val).toNat : Int)) := by
  unfold room
  apply Array.ext'
  simp only [Array.toList_setIfInBounds]
  rw [show 20 - pre.length = (20 - (pre ++ [y]).length) + 1 from by simp; omega]
  rw [List.replicate_succ', List.append_assoc, Nat.add_sub_cancel, List.set_append_right _ _ (by simp)]
  simp
theorem room_at (pre : List (Nat × Fin 16)) (h : pre.length < 20) : (room pre)[20 - pre.length - 1]? = some (.int .u8 0) := by
  unfold room
  rw [List.getElem?_toArray, List.getElem?_append_left (by simp; omega), List.getElem?_replicate, if_pos (by omega)]
theorem isLen_le {b x K : Nat} (hb : b = 10 ∨ b = 16) (hx : x < 18446744073709551616) (h : IsLen b x K) : 1 ≤ K ∧ K ≤ 20 := by
  obtain ⟨h1, _, h | h⟩ := h
  · omega
  · have := isLen_small hb hx h; omega

theorem room_txt (b x K j : Nat) (hb : b = 10 ∨ b = 16) (hj : j < (txt b x K).length) : (room (upto (tell b x) K))[20 - K + j]? = some (.int .u8 (((txt b x K)[j]).toNat : Int)) := by
  have hl : (txt b x K).length = K := by simp [txt, upto_length]
  unfold room
  have ht : ∀ k, (tell b x k).2.val = digAt b x k := fun k => Nat.mod_eq_of_lt (Nat.lt_of_lt_of_le (Nat.mod_lt _ (by rcases hb with rfl | rfl <;> omega)) (by rcases hb with rfl | rfl <;> omega))
  have e : ((upto (tell b x) K).map fun y => Value.int .u8 ((sgn y.2.val).toNat : Int)).reverse = (txt b x K).map fun c => Value.int .u8 (c.toNat : Int) := by
    simp [txt, upto, List.map_reverse, Function.comp_def, ht]
  rw [e, upto_length, List.getElem?_toArray, List.getElem?_append_right (by simp)]
  simp [List.getElem?_eq_getElem hj]

set_option maxRecDepth 100000 in
set_option maxHeartbeats 2000000 in
theorem written_in (n : Nat) (hn : 3 ≤ n) (b x : Nat) (hb : b = 10 ∨ b = 16) (hx : x < 18446744073709551616) (w : World) :
    CallsIn Fence.wide n Tryz.prog 79 #[.int .u64 x, .int .u64 b] w fun e w' => (∃ K, IsLen b x K ∧ e = .returned (.string ⟨(txt b x K).toArray⟩)) ∧ Below w.heap.size w w' := by
  have h1 : 1 ≤ n := by omega
  refine callsIn_of_wp_marks Tryz.func79 rfl trivial ?_ rfl
  simp only [Tryz.ntmps79, List.size_toArray, List.length_cons, List.length_nil, Nat.reduceAdd, Nat.reduceSub, Array.replicate_succ, Array.replicate_zero, List.push_toArray, List.append_toArray, List.nil_append, List.cons_append]
  gi_wp2_with (gi_at_call 97; refine (digits_in (n - 1) _ _ _).mono ?_; rintro e w' ⟨rfl, rfl⟩)
  obtain ⟨W0, hW0⟩ : ∃ W0, (w.alloc (.cells #[.int .u8 0, .int .u8 0, .int .u8 0, .int .u8 0, .int .u8 0, .int .u8 0, .int .u8 0, .int .u8 0, .int .u8 0, .int .u8 0, .int .u8 0, .int .u8 0, .int .u8 0, .int .u8 0, .int .u8 0, .int .u8 0, .int .u8 0, .int .u8 0, .int .u8 0, .int .u8 0] 121)) = W0 := ⟨_, rfl⟩
  rw [hW0]
  have z0 : W0.heap.size = w.heap.size + 1 := by rw [← hW0]; simp
  have hr : Has W0 w.heap.size 121 (room []) := by rw [← hW0]; exact Has.new _ _ _
  have hb0 : Below w.heap.size w W0 := by rw [← hW0]; exact (Below.refl _ w).alloc (Nat.le_refl _) _
  clear hW0
  have ha := Has.new W0 3 #[.int .i64 20]
  have hx1 := Has.new (W0.alloc (.cells #[.int .i64 20] 3)) 60 #[.int .u64 x]
  have hx2 := Has.new ((W0.alloc (.cells #[.int .i64 20] 3)).alloc (.cells #[.int .u64 x] 60)) 60 #[.int .u64 b]
  simp only [World.size_alloc, z0] at ha hx1 hx2
  refine wpIn_rangeFunc_ownG rfl h1 (gf := 109) (lb := #[.pointer (some ⟨w.heap.size + 1 + 1, 0, none⟩), .pointer (some ⟨w.heap.size + 1 + 1 + 1, 0, none⟩)]) rfl trivial (enters_of Tryz.func109 (by kernel_rfl) rfl)
    (digits_stops (n - 1) (by omega) b x (w.heap.size + 1 + 1) (w.heap.size + 1 + 1 + 1) hb hx _ (hx1.alloc _) hx2) Kept.trans (kept_b (fun k e => by subst e; simp [z0])) (Below.refl _ _) (fun _ => rfl)
    (fun pre W => Has W w.heap.size 121 (room pre) ∧ Has W (w.heap.size + 1) 3 #[.int .i64 (20 - pre.length)] ∧ Below w.heap.size w W)
    (fun _ _ _ => False)
    (OwnFrom.and (has_from (by simp only [World.size_alloc]; omega) _ _) (OwnFrom.and (has_from (by simp only [World.size_alloc]; omega) _ (fun pre : List (Nat × Fin 16) => #[.int .i64 (20 - pre.length)])) (ownFrom_below (Nat.le_refl _) (by simp only [World.size_alloc]; omega))))
    (fun _ _ _ _ _ hs _ _ => hs)
    ⟨((hr.alloc _).alloc _).alloc _, (ha.alloc _).alloc _, ((hb0.alloc (by omega) _).alloc (by simp only [World.size_alloc]; omega) _).alloc (by simp only [World.size_alloc]; omega) _⟩
    (fun y => { tmps := #[.int .u64 x, .int .u64 b, undef, undef, .string ⟨#[]⟩, .pointer (some ⟨w.heap.size, 0, none⟩), .pointer (some ⟨w.heap.size + 1, 0, none⟩), undef, .int .u8 (y.2.val : Int), .int .u64 x, .int .u64 b, .func (.func 109) #[] #[.pointer (some ⟨w.heap.size + 1 + 1, 0, none⟩), .pointer (some ⟨w.heap.size + 1 + 1 + 1, 0, none⟩)], .int .i64 (y.1 : Int), .int .u8 (y.2.val : Int), undef, undef, undef, undef, undef, undef, undef, undef, undef], defers := [] }) ?assign ?body ?done ?stop
  case assign =>
    intro l y W K hK
    dsimp only [encDig]
    gi_wp2
    exact hK
  case body =>
    rintro l pre y W ⟨hr, ha, hB⟩ hlen
    have ca := ha.cell 0
    have fa := ha.free 0
    have cr := (hr.cell (20 - pre.length - 1)).trans (room_at pre hlen)
    have fr := hr.free (20 - pre.length - 1)
    have hy16 : y.2.val < 16 := y.2.isLt
    gi_wp2
    gi_region
    all_goals
      simp only [signs_get]
      refine ⟨(((KeepsOthers.setCell _ _ _).trans (KeepsOthers.setCell _ _ _)).trans (KeepsOthers.drew _)).from _, (((Kept.refl _ _).setCell (by simp) _).setCell (by simp; omega) _).draws 1, ?_, ?_, ((hB.setCell (by simp) _).setCell (Nat.le_refl _) _).drew⟩
      · rw [room_snoc _ _ hlen]
        exact (hr.other (by omega) _).put _ _
      · have h := (ha.put 0 (.int .i64 (20 - (pre.length : Int) - 1))).other (j := w.heap.size) (i := 20 - pre.length - 1) (by omega) (.int .u8 ((sgn y.2.val).toNat : Int))
        rw [show (20 - ((pre ++ [y]).length : Int)) = 20 - (pre.length : Int) - 1 from by simp; omega]
        exact h
  case done =>
    rintro D ys W hD ⟨K, hK, rfl⟩ ⟨hr, ha, hB⟩ hKd
    simp only [upto_length] at ha
    have ca := ha.cell 0
    have hKb := isLen_le hb hx hK
    have hsl : (Instr.sliceAt 121 (.pointer (some ⟨w.heap.size, 0, none⟩)) (some (.int .i64 (20 - (K : Int)))) none none).run Tryz.prog W = .ok (.slice (some ⟨w.heap.size, 20 - K, none⟩) K K) W := by
      have al : Tryz.prog.arrayLen 121 = 20 := by kernel_rfl
      rw [run_sliceAt_array_l W 121 ⟨w.heap.size, 0, none⟩ (by kernel_rfl) .i64 (20 - (K : Int)) (by omega) (by rw [al]; omega), al]
      rw [show (20 - (K : Int)).toNat = 20 - K from by omega]
      have hs : (sizeOf (Tryz.prog.elem 121)).run Tryz.prog W = .ok 1 W := by kernel_rfl
      rw [hs]
      simp only [Result.andThen, slicedAt]
      rw [if_neg (by omega), show 20 - (20 - K) = K from by omega]
      simp [Addr.add]
      omega
    have hlen : (txt b x K).length = K := by simp [txt, upto_length]
    have hcv := run_convert_bytes_back (P := Tryz.prog) W 59 9 5 ⟨w.heap.size, 20 - K, none⟩ K (txt b x K) Tryz.underlying59 Tryz.underlying5 Tryz.underlying9 (fun j hj => by
      rw [show (Addr.add ⟨w.heap.size, 20 - K, none⟩ j) = ⟨w.heap.size, 20 - K + j, none⟩ from by unfold Addr.add; split <;> simp_all]
      rw [hr.cell]
      exact room_txt b x K j hb hj)
    rw [hlen] at hcv
    clear hlen
    gi_wp2
    refine ⟨by simp, .inl ⟨_, _, rfl, run_takeDeferred hKd, ?_⟩⟩
    exact ⟨_, results_tmp rfl _ _ _, ⟨K, hK, rfl⟩, hB.trans (belowK_b (w := w) (Nat.le_refl _) W D _ _ (by simp only [World.size_alloc] at hD; omega) hKd rfl rfl)⟩
  case stop =>
    rintro D c pre W _ _ h _
    exact h.elim

/-! ## The document's own texts -/
theorem isLen_one {b x K : Nat} (hb : 2 ≤ b) : IsLen b x K → ∀ {K'}, IsLen b x K' → K = K' := by
  have key : ∀ {K K'}, IsLen b x K → IsLen b x K' → ¬ K < K' := by
    rintro K K' ⟨h1, h2, _⟩ ⟨_, _, h3⟩ hlt
    rcases h3 with h3 | h3
    · omega
    · apply h3
      have : b ^ K ≤ b ^ (K' - 1) := Nat.pow_le_pow_right (by omega) (by omega)
      rw [Nat.div_eq_zero_iff] at h2 ⊢
      have : 0 < b ^ K := Nat.pow_pos (by omega)
      omega
  intro h K' h'
  have := key h h'
  have := key h' h
  omega

theorem signs_cut (d : Nat) (h : d < 16) : (⟨#[48, 49, 50, 51, 52, 53, 54, 55, 56, 57, 97, 98, 99, 100, 101, 102]⟩ : ByteArray).extract d (d + 1) = ⟨#[sgn d]⟩ := by
  have : ∀ d : Fin 16, ((⟨#[48, 49, 50, 51, 52, 53, 54, 55, 56, 57, 97, 98, 99, 100, 101, 102]⟩ : ByteArray).extract d.1 (d.1 + 1)).data = #[sgn d.1] := by decide
  have := this ⟨d, h⟩
  revert this
  generalize (⟨#[48, 49, 50, 51, 52, 53, 54, 55, 56, 57, 97, 98, 99, 100, 101, 102]⟩ : ByteArray).extract d (d + 1) = y
  rintro e
  cases y
  exact congrArg ByteArray.mk e
theorem txt_succ (b x k : Nat) : txt b x (k + 1) = sgn (digAt b x k) :: txt b x k := by simp [txt, upto_succ]
theorem txt_length (b x k : Nat) : (txt b x k).length = k := by simp [txt, upto_length]
def ToldRel (b x : Nat) (t s : Value) : Prop := ∃ k m : Nat, k < 20 ∧ m = x / b ^ k ∧ (k = 0 ∨ m ≠ 0) ∧ t = .int .u64 (m : Int) ∧ s = .string ⟨(txt b x k).toArray⟩
theorem told_cat (c : UInt8) (l : List UInt8) : (⟨#[c]⟩ : ByteArray) ++ ⟨l.toArray⟩ = ⟨(c :: l).toArray⟩ := by
  apply ByteArray.ext
  simp [ByteArray.data_append]

theorem told_str (b x k m : Nat) (hm : m = x / b ^ k) : (⟨#[sgn (m % b)]⟩ : ByteArray) ++ ⟨(txt b x k).toArray⟩ = ⟨(txt b x (k + 1)).toArray⟩ := by
  rw [told_cat, txt_succ, digAt, ← hm]
theorem ret_str {s t : ByteArray} (h : s = t) : Ending.returned (.string s) = Ending.returned (.string t) := by rw [h]

end Go.Proofs.YtcogdfgmmpfkkaaGreatDoor

namespace Go.Proofs.YtcogdfgmmpfkkaaGreatDoor
open Go.RowKit Go.Shelf
attribute [local go_sem] Oper.semAt_some
attribute [local go_sem] wide_fn wide_depth wide_round

/-! ## What digits are worth -/
def worth (c : Int) : Int := if 48 ≤ c ∧ c ≤ 57 then c - 48 else if 97 ≤ c ∧ c ≤ 102 then c - 87 else if 65 ≤ c ∧ c ≤ 70 then c - 55 else 16
def isDig (b c : Int) : Bool := decide (worth c < b)
def moreR (b n c : Int) : Int × Int := if (mulR n b).2 = 0 then addR (mulR n b).1 (worth c) else (0, (mulR n b).2)
theorem worth_64 (c : Int) : Is64 (worth c) := by unfold worth Is64; constructor <;> (repeat' split) <;> omega
section
set_option maxHeartbeats 400000
theorem worth_any (c : Int) (w : World) (h0 : 0 ≤ c) (h1 : c < 256) : Calls Tryz.prog 124 #[.int .u8 c] w fun e w' => e = .returned (.int .u64 (worth c)) ∧ w = w' := by
  have hw : 48 ≤ c ∧ c ≤ 57 ∨ 97 ≤ c ∧ c ≤ 102 ∨ 65 ≤ c ∧ c ≤ 70 ∨ c < 48 ∨ 57 < c ∧ c < 65 ∨ 70 < c ∧ c < 97 ∨ 102 < c := by omega
  rcases hw with h | h | h | h | h | h | h
  all_goals
    go_enter Tryz.func124, Tryz.ntmps124
    go_wp2
    go_ret
    refine ⟨ret_u64 ?_, rfl⟩
    unfold worth
    (repeat' split) <;> omega
theorem refDigit_any (c : Int) (w : World) (h0 : 0 ≤ c) (h1 : c < 256) : Calls Tryz.prog 33 #[.int .u8 c] w fun e w' => e = .returned (.int .u64 (worth c)) ∧ w = w' := by
  have hw : 48 ≤ c ∧ c ≤ 57 ∨ 97 ≤ c ∧ c ≤ 102 ∨ 65 ≤ c ∧ c ≤ 70 ∨ c < 48 ∨ 57 < c ∧ c < 65 ∨ 70 < c ∧ c < 97 ∨ 102 < c := by omega
  rcases hw with h | h | h | h | h | h | h
  all_goals
    go_enter Tryz.func33, Tryz.ntmps33
    go_wp2
    go_ret
    refine ⟨ret_u64 ?_, rfl⟩
    unfold worth
    (repeat' split) <;> omega
theorem digitTo1_any (c b : Int) (B : Nat) (w : World) (h0 : 0 ≤ c) (h1 : c < 256) (hB : w.cell? ⟨B, 0, none⟩ = some (.int .u64 b)) :
    Calls Tryz.prog 123 #[.int .u8 c, .pointer (some ⟨B, 0, none⟩)] w fun e w' => e = .returned (.bool (isDig b c)) ∧ ∃ q, w' = w.drewN q := by
  go_enter Tryz.func123, Tryz.ntmps123
  go_wp2
  go_quiet ((go_at_call 124; exact Calls.quiet_of_same ((worth_any _ _ (by omega) (by omega)).mono fun e w' ⟨h, h'⟩ => ⟨h, h'.symm⟩)))
  all_goals go_wp2
  all_goals go_ret
  all_goals exact ⟨rfl, _, rfl⟩
theorem digitTo_any (b : Int) (w : World) : Calls Tryz.prog 115 #[.int .u64 b] w fun e w' => e = .returned (.func (.func 123) #[] #[.pointer (some ⟨w.heap.size, 0, none⟩)]) ∧ w' = w.alloc (.cells #[.int .u64 b] 60) := by
  go_enter Tryz.func115, Tryz.ntmps115
  go_wp2
  go_ret
  exact ⟨rfl, rfl⟩
theorem all_any (s : ByteArray) (w : World) : Calls Tryz.prog 117 #[.string s] w fun e w' => e = .returned (.func (.func 125) #[] #[.pointer (some ⟨w.heap.size, 0, none⟩)]) ∧ w' = w.alloc (.cells #[.string s] 128) := by
  go_enter Tryz.func117, Tryz.ntmps117
  go_wp2
  go_ret
  exact ⟨rfl, rfl⟩
theorem empty_yes (w : World) : Calls Tryz.prog 116 #[.string ⟨#[]⟩] w fun e w' => e = .returned (.bool true) ∧ w = w' := by
  go_enter Tryz.func116, Tryz.ntmps116
  go_wp2
  go_ret
  exact ⟨rfl, rfl⟩
theorem empty_no (s : ByteArray) (w : World) (hs : ((s.size : Int) == 0) = false) : Calls Tryz.prog 116 #[.string s] w fun e w' => e = .returned (.bool false) ∧ w = w' := by
  go_enter Tryz.func116, Tryz.ntmps116
  go_wp2
  go_ret
  exact ⟨rfl, rfl⟩
/-- A nought stands ahead of others. -/
def padB (l : List UInt8) : Bool := decide (1 < l.length) && l[0]?.getD 0 == 48
theorem mulR_64 {a b : Int} (ha : Is64 a) (hb : Is64 b) : Is64 (mulR a b).1 := by
  have := Int.mul_nonneg ha.1 hb.1
  unfold mulR Is64 at *; split <;> constructor <;> simp <;> omega
theorem more_any (s : ByteArray) (b n c : Int) (w : World) (hb : Is64 b) (hn : Is64 n) (h0 : 0 ≤ c) (h1 : c < 256) :
    Calls Tryz.prog 118 #[.agg #[.string s, .int .u64 b], .int .u64 n, .int .u8 c] w fun e w' => e = Two (moreR b n c) ∧ Below w.heap.size w w' := by
  have hc := fun w => mul_any n b w hn hb
  have h64 := mulR_64 hn hb
  have hr : moreR b n c = if (mulR n b).2 = 0 then addR (mulR n b).1 (worth c) else (0, (mulR n b).2) := rfl
  generalize mulR n b = r at hc h64 hr
  have hw := worth_64 c
  have ha := fun w => add_any r.1 (worth c) w h64 hw
  generalize addR r.1 (worth c) = t at ha hr
  have hr' := Lib.hid hr
  have hc' := Lib.hid hc
  have ha' := Lib.hid ha
  clear hr hc ha h64 hw
  by_cases hz : r.2 = 0
  · have hz1 : (r.2 != 0) = false := by rw [bne_eq_false_iff_eq]; exact hz
    have hz' := Lib.hid hz
    clear hz
    go_enter Tryz.func118, Tryz.ntmps118
    go_wp2_with (first | (go_at_call 126; refine (hc'.out _).mono ?_; rintro e w' ⟨rfl, rfl⟩; simp only [Two]) | (go_at_call 124; refine (worth_any _ _ (by omega) (by omega)).mono ?_; rintro e w' ⟨rfl, rfl⟩) | (go_at_call 127; refine (ha'.out _).mono ?_; rintro e w' ⟨rfl, rfl⟩; simp only [Two]))
    go_ret2
    exact ⟨two_of (hr'.out.trans (if_pos hz'.out)), (Below.refl _ _).alloc (Nat.le_refl _) _⟩
  · have hz1 : (r.2 != 0) = true := by rw [bne_iff_ne]; exact hz
    have hz' := Lib.hid hz
    clear hz
    go_enter Tryz.func118, Tryz.ntmps118
    go_wp2_with (first | (go_at_call 126; refine (hc'.out _).mono ?_; rintro e w' ⟨rfl, rfl⟩; simp only [Two]))
    go_ret2
    exact ⟨two_of (hr'.out.trans (if_neg hz'.out)), (Below.refl _ _).alloc (Nat.le_refl _) _⟩
end
end Go.Proofs.YtcogdfgmmpfkkaaGreatDoor

namespace Go.Proofs.YtcogdfgmmpfkkaaGreatDoor
open Go.RowKit Go.Shelf
attribute [local go_sem] Oper.semAt_some
attribute [local go_sem] wide_fn wide_depth wide_round

/-! ## A jump on to a label that stands further on -/
theorem wp_scope_on {P : Program} {a : Act} {w : World} {Q : Exit → Act → World → Prop} {c rest : Code} (l : Nat) (hf : findLabel c l = some rest)
    (first : c.wp P (Exit.jump l (fun a w => rest.wp P (Exit.noGoto Q) a w) Q) a w) : (Code.scope c).wp P Q a w := by
  refine wp_scope_jumps l (fun a w => rest.wp P (Exit.noGoto Q) a w) (fun _ _ => 0) hf first (fun a w h => wp_mono h ?_)
  intro e a w hq
  cases e <;> first | exact hq.elim | exact hq

/-- What Each's like tells of a text. -/
def spell (s : ByteArray) (k : Nat) : Nat × UInt8 := (k, s.data.toList[k]?.getD 0)

set_option maxRecDepth 100000 in
set_option maxHeartbeats 1000000 in
theorem all1_in (n : Nat) (hn : 1 ≤ n) (s : ByteArray) (hm : s.size ≤ 9223372036854775807) (l B : Nat) (J Jx : List (Nat × UInt8) → World → Prop)
    (hY : ∀ pre y W, J pre W → pre.length < s.size → YieldAt Fence.wide (n - 1) Tryz.prog l (encPair y) W fun e W' =>
      (e = .returned (.bool true) ∧ J (pre ++ [y]) W' ∧ Kept (· = B) W W') ∨ (e = .returned (.bool false) ∧ Jx (pre ++ [y]) W'))
    (W : World) (h1 : Has W B 128 #[.string s]) (h0 : J [] W) :
    CallsIn Fence.wide n Tryz.prog 125 #[.func (.yield l) #[] #[], .pointer (some ⟨B, 0, none⟩)] W fun e W' => (∃ v, e = .returned v) ∧
      ((∃ ys, ys = upto (spell s) s.size ∧ J ys W') ∨ (∃ pre, (∃ k, k < s.size ∧ pre = upto (spell s) (k + 1)) ∧ Jx pre W')) := by
  refine callsIn_of_wp Tryz.func125 rfl trivial ?_ rfl
  simp only [Tryz.ntmps125, List.size_toArray, List.length_cons, List.length_nil, Nat.reduceAdd, Nat.reduceSub, Array.replicate_succ, Array.replicate_zero, List.push_toArray, List.append_toArray, List.nil_append, List.cons_append]
  have c1 := h1.cell 0
  gi_wp2
  gi_loopw [6] (fun i wr => ∃ k : Nat, k ≤ s.size ∧ i = .int .i64 k ∧ J (upto (spell s) k) wr ∧ Has wr B 128 #[.string s])
    (fun i _ => s.size - (intOf i).toNat)
  case atStart => exact ⟨0, Nat.zero_le _, rfl, h0, h1⟩
  case round =>
    obtain ⟨k, hk, rfl, hJs, hB⟩ := hrel
    have c2 := hB.cell 0
    by_cases hlt : k < s.size
    · obtain ⟨fn, tmps, assign, body, hy, hR⟩ := hY _ (spell s k) wr hJs (by rw [upto_length]; exact hlt)
      have hs : s.data.toList[k]?.getD 0 = s[k] := by
        rw [Array.getElem?_toList, Array.getElem?_eq_getElem (show k < s.data.size from hlt)]; rfl
      have hy' : (Instr.yield l #[.int .i64 k, .int .u8 (s[k].toNat : Int)]).run Tryz.prog wr = .ok (Next.round l fn tmps assign body) wr := by rw [← hs]; exact hy
      have hR' := Lib.hid hR
      clear hy hR hY hs
      gi_wp2
      refine hR'.out.mono ?_
      rintro e W3 (⟨rfl, hJ3, hk3⟩ | ⟨rfl, hJx3⟩)
      · have hB3 := hk3.has rfl hB
        have c3 := hB3.cell 0
        have hJ4 := Lib.hid hJ3
        gi_wp2
        exact ⟨⟨k + 1, by omega, by go_num, by rw [upto_succ]; exact hJ4.out, hB3⟩, by simp [intOf]; omega⟩
      · gi_wp2
        refine bodyPost_ret (results_none rfl _ _ _) rfl ?_
        exact ⟨⟨_, rfl⟩, .inr ⟨_, ⟨k, hlt, (upto_succ _ _).symm⟩, hJx3⟩⟩
    · obtain rfl : k = s.size := by omega
      gi_wp2
      go_end0
      exact ⟨⟨_, rfl⟩, .inl ⟨_, rfl, hJs⟩⟩
theorem all_stops (n : Nat) (hn : 1 ≤ n) (s : ByteArray) (hm : s.size ≤ 9223372036854775807) (B : Nat) (w : World) (h1 : Has w B 128 #[.string s]) :
    SeqStopsK Fence.wide n Tryz.prog 125 #[.pointer (some ⟨B, 0, none⟩)] encPair (Kept (· = B)) (fun ys => ys = upto (spell s) s.size)
      (fun pre => ∃ k, k < s.size ∧ pre = upto (spell s) (k + 1)) s.size w := fun l J Jx W hW _ _ hY h0 =>
  all1_in n hn s hm l B J Jx hY W (h1.below hW h1.lt) h0

/-! ## The number of digits -/
def step (b : Int) (r : Int × Int) (c : Int) : Int × Int := if r.2 = 0 then moreR b r.1 c else r
def goesR (b : Int) (l : List UInt8) : Int × Int := l.foldl (fun r c => step b r (c.toNat : Int)) (0, 0)
def numR (b : Int) (l : List UInt8) : Int × Int := if l ≠ [] ∧ ∀ c ∈ l, isDig b (c.toNat : Int) = true then goesR b l else (0, 110)

set_option maxRecDepth 100000 in
set_option maxHeartbeats 1000000 in
theorem number_empty (b : Int) (w : World) :
    Calls Tryz.prog 104 #[.agg #[.string ⟨#[]⟩, .int .u64 b]] w fun e w' => e = Two (numR b []) ∧ Below w.heap.size w w' := by
  go_enter Tryz.func104, Tryz.ntmps104
  go_wp2
  refine wp_scope_on 0 rfl ?_
  go_wp2_with (first | (go_at_call 115; refine (digitTo_any _ _).mono ?_; rintro e w' ⟨rfl, rfl⟩) | (go_at_call 116; refine (empty_yes _).mono ?_; rintro e w' ⟨rfl, rfl⟩))
  go_step3
  refine ⟨rfl, ?_⟩
  go_wp2
  try rw [Exit.noGoto_ret]
  go_ret2
  exact ⟨two_of rfl, ((((((Below.refl _ _).alloc (Nat.le_refl _) _).alloc (by simp) _).alloc (by simp; omega) _).alloc (by simp; omega) _).alloc (by simp; omega) _).alloc (by simp; omega) _⟩

theorem addR_bnd {a b : Int} (ha : Is64 a) (hb : Is64 b) : Is64 (addR a b).1 := addR_64 ha hb
theorem moreR_64 {b n c : Int} (hb : Is64 b) (hn : Is64 n) : Is64 (moreR b n c).1 := by
  unfold moreR
  split
  · exact addR_64 (mulR_64 hn hb) (worth_64 c)
  · exact ⟨by simp, by simp⟩
theorem step_64 {b c : Int} {r : Int × Int} (hb : Is64 b) (hr : Is64 r.1) : Is64 (step b r c).1 := by
  unfold step
  split
  · exact moreR_64 hb hr
  · exact hr
theorem goesR_snoc (b : Int) (l : List UInt8) (c : UInt8) : goesR b (l ++ [c]) = step b (goesR b l) (c.toNat : Int) := by simp [goesR]
theorem goesR_64 {b : Int} (hb : Is64 b) (l : List UInt8) : Is64 (goesR b l).1 := by
  have : ∀ (l : List UInt8) (r : Int × Int), Is64 r.1 → Is64 (l.foldl (fun r c => step b r (c.toNat : Int)) r).1 := by
    intro l
    induction l with
    | nil => intro r h; exact h
    | cons c l ih => intro r h; exact ih _ (step_64 hb h)
  exact this l _ ⟨by simp, by simp⟩
def goes (b : Int) (pre : List (Nat × UInt8)) : Int × Int := goesR b (pre.map Prod.snd)
theorem goes_snoc (b : Int) (pre : List (Nat × UInt8)) (y : Nat × UInt8) : goes b (pre ++ [y]) = step b (goes b pre) (y.2.toNat : Int) := by simp [goes, goesR_snoc]
theorem step_go {b c : Int} {r : Int × Int} (h : r.2 = 0) : step b r c = moreR b r.1 c := if_pos h
theorem step_stay {b c : Int} {r : Int × Int} (h : ¬ r.2 = 0) : step b r c = r := if_neg h
theorem byte_lt (c : UInt8) : (c.toNat : Int) < 256 := by have := c.toNat_lt; omega
/-- What the loop over a text's bytes keeps, while all are digits. -/
def NumI (b : Int) (s : ByteArray) (w : World) (pre : List (Nat × UInt8)) (W : World) : Prop :=
  (∀ y ∈ pre, isDig b (y.2.toNat : Int) = true) ∧ Has W w.heap.size 130 #[.string s, .int .u64 b] ∧ Has W (w.heap.size + 1) 60 #[.int .u64 (goes b pre).1] ∧
    Has W (w.heap.size + 1 + 1) 27 #[.int .i64 (goes b pre).2] ∧ Has W (w.heap.size + 1 + 1 + 1) 60 #[.int .u64 b] ∧
    Has W (w.heap.size + 1 + 1 + 1 + 1) 62 #[.func (.func 123) #[] #[.pointer (some ⟨w.heap.size + 1 + 1 + 1, 0, none⟩)]] ∧
    Has W (w.heap.size + 1 + 1 + 1 + 1 + 1) 4 #[.bool true] ∧ Has W (w.heap.size + 1 + 1 + 1 + 1 + 1 + 1) 128 #[.string s] ∧ Below w.heap.size w W
/-- .. and where one is none. -/
def NumX (b : Int) (w : World) (c : Code) (pre : List (Nat × UInt8)) (W : World) : Prop :=
  c = .exit 0 ∧ (∃ y ∈ pre, isDig b (y.2.toNat : Int) = false) ∧ Has W (w.heap.size + 1 + 1 + 1 + 1 + 1) 4 #[.bool false] ∧ Below w.heap.size w W
theorem numI_from (b : Int) (s : ByteArray) (w : World) (B : Nat) (hB : w.heap.size + 1 + 1 + 1 + 1 + 1 + 1 < B) : OwnFrom B (NumI b s w) := by
  refine OwnFrom.and (ownFrom_pure _ _) (OwnFrom.and (has_from (by omega) _ _) (OwnFrom.and (has_from (by omega) _ (fun pre => #[.int .u64 (goes b pre).1])) (OwnFrom.and (has_from (by omega) _ (fun pre => #[.int .i64 (goes b pre).2])) (OwnFrom.and (has_from (by omega) _ _) (OwnFrom.and (has_from (by omega) _ _) (OwnFrom.and (has_from (by omega) _ _) (OwnFrom.and (has_from (by omega) _ _) (ownFrom_below (Nat.le_refl _) (by omega)))))))))
theorem numX_from (b : Int) (w : World) (B : Nat) (hB : w.heap.size + 1 + 1 + 1 + 1 + 1 < B) (c : Code) : OwnFrom B (NumX b w c) := by
  refine OwnFrom.and (ownFrom_pure _ _) (OwnFrom.and (ownFrom_pure _ _) (OwnFrom.and (has_from (by omega) _ _) (ownFrom_below (Nat.le_refl _) (by omega))))

theorem spell_all (s : ByteArray) : (upto (spell s) s.size).map Prod.snd = s.data.toList := by
  apply List.ext_getElem
  · simp only [List.length_map, upto_length, Array.length_toList]; rfl
  · intro i h1 h2
    simp [upto, spell]
    rw [Array.getElem?_eq_getElem (by simpa using h2)]; rfl
theorem numR_all (b : Int) (s : ByteArray) (hs : ((s.size : Int) == 0) = false) (h : ∀ y ∈ upto (spell s) s.size, isDig b (y.2.toNat : Int) = true) : numR b s.data.toList = ((goes b (upto (spell s) s.size)).1, (goes b (upto (spell s) s.size)).2) := by
  have e : goes b (upto (spell s) s.size) = goesR b s.data.toList := by unfold goes; rw [spell_all]
  rw [e]
  have h' : ∀ c ∈ s.data.toList, isDig b (c.toNat : Int) = true := by
    intro c hc
    rw [← spell_all] at hc
    obtain ⟨y, hy, rfl⟩ := List.mem_map.1 hc
    exact h y hy
  have h0 : s.data.toList ≠ [] := by
    intro e
    rw [beq_eq_false_iff_ne] at hs
    apply hs
    have : s.size = 0 := by
      show s.data.size = 0
      rw [← Array.length_toList, e]; rfl
    omega
  exact if_pos ⟨h0, h'⟩
theorem numR_one (b : Int) (s : ByteArray) {k : Nat} (hk : k < s.size) (h : ∃ y ∈ upto (spell s) (k + 1), isDig b (y.2.toNat : Int) = false) : numR b s.data.toList = (0, 110) := by
  refine if_neg ?_
  rintro ⟨_, h'⟩
  obtain ⟨y, hy, hd⟩ := h
  have : y.2 ∈ s.data.toList := by
    simp only [upto, List.mem_map, List.mem_range] at hy
    obtain ⟨j, hj, rfl⟩ := hy
    have hj' : j < s.data.toList.length := by simp; have : s.size = s.data.size := rfl; omega
    simp only [spell]
    rw [List.getElem?_eq_getElem hj']
    exact List.getElem_mem _
  have := h' _ this
  rw [hd] at this
  cases this

set_option maxRecDepth 100000 in
set_option maxHeartbeats 2000000 in
theorem number_in (n : Nat) (hn : 3 ≤ n) (b : Int) (hb : Is64 b) (s : ByteArray) (hs : ((s.size : Int) == 0) = false) (hm : s.size ≤ 9223372036854775807) (w : World) :
    CallsIn Fence.wide n Tryz.prog 104 #[.agg #[.string s, .int .u64 b]] w fun e w' => e = Two (numR b s.data.toList) ∧ Below w.heap.size w w' := by
  have h1 : 1 ≤ n := by omega
  refine callsIn_of_wp_marks Tryz.func104 rfl trivial ?_ rfl
  refine wpIn_wide.2 ?_
  simp only [Tryz.ntmps104, List.size_toArray, List.length_cons, List.length_nil, Nat.reduceAdd, Nat.reduceSub, Array.replicate_succ, Array.replicate_zero, List.push_toArray, List.append_toArray, List.nil_append, List.cons_append]
  go_wp2
  refine wp_scope_on 0 rfl ?_
  go_wp2_with (first | (go_at_call 115; refine (digitTo_any _ _).mono ?_; rintro e w' ⟨rfl, rfl⟩) | (go_at_call 116; refine (empty_no s _ hs).mono ?_; rintro e w' ⟨rfl, rfl⟩))
  go_step3
  go_wp2_with (first | (go_at_call 117; refine (all_any s _).mono ?_; rintro e w' ⟨rfl, rfl⟩))
  have k0 := (((((((Has.new w 130 #[.string s, .int .u64 b]).alloc (.cells #[.int .u64 0] 60)).alloc (.cells #[.int .i64 0] 27)).alloc (.cells #[.int .u64 b] 60)).alloc (.cells #[.func (.func 123) #[] #[.pointer (some ⟨w.heap.size + 1 + 1 + 1, 0, none⟩)]] 62)).alloc (.cells #[.bool true] 4)).alloc (.cells #[.string s] 128))
  have kB : Below w.heap.size w (((((((w.alloc (.cells #[.string s, .int .u64 b] 130)).alloc (.cells #[.int .u64 0] 60)).alloc (.cells #[.int .i64 0] 27)).alloc (.cells #[.int .u64 b] 60)).alloc (.cells #[.func (.func 123) #[] #[.pointer (some ⟨w.heap.size + 1 + 1 + 1, 0, none⟩)]] 62)).alloc (.cells #[.bool true] 4)).alloc (.cells #[.string s] 128)) :=
    (((((((Below.refl _ w).alloc (Nat.le_refl _) _).alloc (by simp) _).alloc (by simp; omega) _).alloc (by simp; omega) _).alloc (by simp; omega) _).alloc (by simp; omega) _).alloc (by simp; omega) _
  obtain ⟨w1, hw1⟩ : ∃ w1, w.alloc (.cells #[.string s, .int .u64 b] 130) = w1 := ⟨_, rfl⟩
  have z1 : w1.heap.size = w.heap.size + 1 := by rw [← hw1]; simp
  rw [hw1] at k0 kB ⊢
  have k1 := ((((((Has.new w1 60 #[.int .u64 0]).alloc (.cells #[.int .i64 0] 27)).alloc (.cells #[.int .u64 b] 60)).alloc (.cells #[.func (.func 123) #[] #[.pointer (some ⟨w.heap.size + 1 + 1 + 1, 0, none⟩)]] 62)).alloc (.cells #[.bool true] 4)).alloc (.cells #[.string s] 128))
  rw [z1] at k1
  obtain ⟨w2, hw2⟩ : ∃ w2, w1.alloc (.cells #[.int .u64 0] 60) = w2 := ⟨_, rfl⟩
  have z2 : w2.heap.size = w.heap.size + 1 + 1 := by rw [← hw2]; simp [z1]
  rw [hw2] at k0 k1 kB ⊢
  have k2 := (((((Has.new w2 27 #[.int .i64 0]).alloc (.cells #[.int .u64 b] 60)).alloc (.cells #[.func (.func 123) #[] #[.pointer (some ⟨w.heap.size + 1 + 1 + 1, 0, none⟩)]] 62)).alloc (.cells #[.bool true] 4)).alloc (.cells #[.string s] 128))
  rw [z2] at k2
  obtain ⟨w3, hw3⟩ : ∃ w3, w2.alloc (.cells #[.int .i64 0] 27) = w3 := ⟨_, rfl⟩
  have z3 : w3.heap.size = w.heap.size + 1 + 1 + 1 := by rw [← hw3]; simp [z2]
  rw [hw3] at k0 k1 k2 kB ⊢
  have k3 := ((((Has.new w3 60 #[.int .u64 b]).alloc (.cells #[.func (.func 123) #[] #[.pointer (some ⟨w.heap.size + 1 + 1 + 1, 0, none⟩)]] 62)).alloc (.cells #[.bool true] 4)).alloc (.cells #[.string s] 128))
  rw [z3] at k3
  obtain ⟨w4, hw4⟩ : ∃ w4, w3.alloc (.cells #[.int .u64 b] 60) = w4 := ⟨_, rfl⟩
  have z4 : w4.heap.size = w.heap.size + 1 + 1 + 1 + 1 := by rw [← hw4]; simp [z3]
  rw [hw4] at k0 k1 k2 k3 kB ⊢
  have k4 := (((Has.new w4 62 #[.func (.func 123) #[] #[.pointer (some ⟨w.heap.size + 1 + 1 + 1, 0, none⟩)]]).alloc (.cells #[.bool true] 4)).alloc (.cells #[.string s] 128))
  rw [z4] at k4
  obtain ⟨w5, hw5⟩ : ∃ w5, w4.alloc (.cells #[.func (.func 123) #[] #[.pointer (some ⟨w.heap.size + 1 + 1 + 1, 0, none⟩)]] 62) = w5 := ⟨_, rfl⟩
  have z5 : w5.heap.size = w.heap.size + 1 + 1 + 1 + 1 + 1 := by rw [← hw5]; simp [z4]
  rw [hw5] at k0 k1 k2 k3 k4 kB ⊢
  have k5 := ((Has.new w5 4 #[.bool true]).alloc (.cells #[.string s] 128))
  rw [z5] at k5
  obtain ⟨w6, hw6⟩ : ∃ w6, w5.alloc (.cells #[.bool true] 4) = w6 := ⟨_, rfl⟩
  have z6 : w6.heap.size = w.heap.size + 1 + 1 + 1 + 1 + 1 + 1 := by rw [← hw6]; simp [z5]
  rw [hw6] at k0 k1 k2 k3 k4 k5 kB ⊢
  have k6 := (Has.new w6 128 #[.string s])
  rw [z6] at k6
  obtain ⟨w7, hw7⟩ : ∃ w7, w6.alloc (.cells #[.string s] 128) = w7 := ⟨_, rfl⟩
  have z7 : w7.heap.size = w.heap.size + 1 + 1 + 1 + 1 + 1 + 1 + 1 := by rw [← hw7]; simp [z6]
  rw [hw7] at k0 k1 k2 k3 k4 k5 k6 kB ⊢
  clear hw1 hw2 hw3 hw4 hw5 hw6 hw7 z1 z2 z3 z4 z5 z6
  refine (wpIn_wide (n := n)).1 ?_
  refine wpIn_rangeFunc_ownG rfl h1 (gf := 125) (lb := #[.pointer (some ⟨w.heap.size + 1 + 1 + 1 + 1 + 1 + 1, 0, none⟩)]) rfl trivial (enters_of Tryz.func125 (by kernel_rfl) rfl)
    (all_stops (n - 1) (by omega) s hm (w.heap.size + 1 + 1 + 1 + 1 + 1 + 1) w7 k6) Kept.trans (kept_b (fun k e => by subst e; omega)) (Below.refl _ _) (fun _ => rfl)
    (NumI b s w) (NumX b w) (numI_from b s w _ (by omega)) (numX_from b w _ (by omega))
    ⟨by simp, k0, k1, k2, k3, k4, k5, k6, kB⟩
    (fun y => { tmps := #[.agg #[.string s, .int .u64 b], .pointer (some ⟨w.heap.size, 0, none⟩), .int .u64 0, .int .i64 0, .pointer (some ⟨w.heap.size + 1, 0, none⟩), .pointer (some ⟨w.heap.size + 1 + 1, 0, none⟩), .pointer (some ⟨w.heap.size + 1 + 1 + 1 + 1, 0, none⟩), .pointer (some ⟨w.heap.size + 1 + 1 + 1 + 1 + 1, 0, none⟩), undef, .int .u8 (y.2.toNat : Int), .pointer (some ⟨w.heap.size, 1, none⟩), .int .u64 b, .func (.func 123) #[] #[.pointer (some ⟨w.heap.size + 1 + 1 + 1, 0, none⟩)], .pointer (some ⟨w.heap.size, 0, none⟩), .string s, .bool false, .pointer (some ⟨w.heap.size, 0, none⟩), .string s, .func (.func 125) #[] #[.pointer (some ⟨w.heap.size + 1 + 1 + 1 + 1 + 1 + 1, 0, none⟩)], .int .i64 (y.1 : Int), .int .u8 (y.2.toNat : Int), undef, undef, undef, undef, undef, undef, undef, undef, undef, undef, undef, undef, undef, undef, undef, undef, undef, undef], defers := [] }) ?assign ?body ?done ?stop
  case assign =>
    intro l y W K hK
    dsimp only [encPair]
    gi_wp2
    exact hK
  case body =>
    rintro l pre y W ⟨hall, b0, b1, b2, b3, b4, b5, b6, hB⟩ hlen
    have c00 := b0.cell 0
    have c01 := b0.cell 1
    have c1 := b1.cell 0
    have c2 := b2.cell 0
    have c3 := b3.cell 0
    have c4 := b4.cell 0
    have c5 := b5.cell 0
    have f1 := b1.free 0
    have f2 := b2.free 0
    have f5 := b5.free 0
    have hy0 : (0 : Int) ≤ (y.2.toNat : Int) := by omega
    have hy1 := byte_lt y.2
    have hgs := goes_snoc b pre y
    have hg64 : Is64 (goes b pre).1 := goesR_64 hb _
    generalize hg : goes b pre = g at hgs hg64 c1 c2 b1 b2
    clear hg
    have hgs' := Lib.hid hgs
    have hg64' := Lib.hid hg64
    have hall' := Lib.hid hall
    clear hgs hg64 hall
    cases hd : isDig b (y.2.toNat : Int) with
    | false =>
      have hd' := Lib.hid hd
      gi_wp2_with (gi_at_call 123; refine (CallsIn.inRound l (callsIn_wide.2 (digitTo1_any _ b _ _ hy0 hy1 c3))).mono ?_; rintro e w' ⟨rfl, q, rfl⟩)
      exact ⟨((others_drewN W q).trans (KeepsOthers.setCell _ _ _)).from _, rfl, ⟨y, by simp, hd'.out⟩, (b5.drewN q).put 0 _, (below_draws hB q).setCell (by simp; omega) _⟩
    | true =>
      have hd' := Lib.hid hd
      by_cases hz : g.2 = 0
      · have hz1 : (g.2 == 0) = true := by rw [beq_iff_eq]; exact hz
        have hz' := Lib.hid hz
        clear hz
        gi_wp2_with (first | (gi_at_call 123; refine (CallsIn.inRound l (callsIn_wide.2 (digitTo1_any _ b _ _ hy0 hy1 c3))).mono ?_; rintro e w' ⟨rfl, q, rfl⟩))
        refine (CallsIn.inRound l (callsIn_wide.2 (more_any s b g.1 _ _ hb hg64'.out hy0 hy1))).mono ?_
        rintro e W2 ⟨rfl, hb2⟩
        simp only [Two]
        have d0 := (b0.drewN q).below hb2 (b0.drewN q).lt
        have d1 := (b1.drewN q).below hb2 (b1.drewN q).lt
        have d2 := (b2.drewN q).below hb2 (b2.drewN q).lt
        have d3 := (b3.drewN q).below hb2 (b3.drewN q).lt
        have d4 := (b4.drewN q).below hb2 (b4.drewN q).lt
        have d5 := (b5.drewN q).below hb2 (b5.drewN q).lt
        have d6 := (b6.drewN q).below hb2 (b6.drewN q).lt
        have e1 := d1.cell 0
        have e2 := d2.cell 0
        have g1 := d1.free 0
        have g2 := d2.free 0
        have hkeep : KeepsOthers W W2 := (others_drewN W q).trans (others_below hb2)
        have hst := Lib.hid (hgs'.out.trans (step_go hz'.out))
        have hall2 : Hid (∀ z ∈ pre ++ [y], isDig b (z.2.toNat : Int) = true) := by
          intro z hz
          rcases List.mem_append.1 hz with hz | hz
          · exact hall'.out z hz
          · rw [List.mem_singleton.1 hz]; exact hd'.out
        generalize moreR b g.1 (y.2.toNat : Int) = r at hst
        clear c00 c01 c1 c2 c3 c4 c5 f1 f2 f5
        gi_wp2
        refine ⟨((hkeep.trans (KeepsOthers.setCell _ _ _)).trans (KeepsOthers.setCell _ _ _)).from _, ((Kept.below hb2 (fun k e => by subst e; exact b6.lt)).setCell (by simp) _).setCell (by simp) _, hall2.out, ?_⟩
        rw [hst.out]
        exact ⟨(d0.other (by omega) _).other (by omega) _, (d1.put 0 _).other (by omega) _, (d2.other (by omega) _).put 0 _, (d3.other (by omega) _).other (by omega) _, (d4.other (by omega) _).other (by omega) _, (d5.other (by omega) _).other (by omega) _, (d6.other (by omega) _).other (by omega) _,
          (((below_draws hB q).trans (hb2.mono hB.size)).setCell (by simp) _).setCell (by simp; omega) _⟩
      · have hz1 : (g.2 == 0) = false := by rw [beq_eq_false_iff_ne]; exact hz
        have hz' := Lib.hid hz
        clear hz
        gi_wp2_with (first | (gi_at_call 123; refine (CallsIn.inRound l (callsIn_wide.2 (digitTo1_any _ b _ _ hy0 hy1 c3))).mono ?_; rintro e w' ⟨rfl, q, rfl⟩))
        refine ⟨(others_drewN W q).from _, (Kept.refl _ _).draws q, ?_, ?_⟩
        · intro z hz
          rcases List.mem_append.1 hz with hz | hz
          · exact hall'.out z hz
          · rw [List.mem_singleton.1 hz]; exact hd'.out
        · rw [hgs'.out, step_stay hz'.out]
          exact ⟨b0.drewN q, b1.drewN q, b2.drewN q, b3.drewN q, b4.drewN q, b5.drewN q, b6.drewN q, below_draws hB q⟩
  case done =>
    rintro D ys W hD rfl ⟨hall, b0, b1, b2, b3, b4, b5, b6, hB⟩ hKd
    have c1 := b1.cell 0
    have c2 := b2.cell 0
    have c5 := b5.cell 0
    go_wp2
    go_quiet (fail)
    all_goals go_wp2
    refine ⟨by simp, .inl ⟨_, _, rfl, run_takeDeferred hKd, ?_⟩⟩
    refine ⟨_, results_tmp2 (t := 2) (u := 3) rfl _ _ _, two_of ?_, (below_draws hB _).trans (belowK_b (w := w) (Nat.le_refl _) _ D _ _ (by omega) hKd rfl rfl)⟩
    exact numR_all b s hs hall
  case stop =>
    rintro D c pre W hD ⟨k, hk, rfl⟩ ⟨rfl, hx, b5, hB⟩ hKd
    have c5 := b5.cell 0
    refine wpIn_wide.2 ?_
    go_wp2
    go_step3
    go_wp2
    refine ⟨by simp, .inl ⟨_, _, rfl, run_takeDeferred hKd, ?_⟩⟩
    exact ⟨_, results_tmp2 (t := 2) (u := 3) rfl _ _ _, two_of (numR_one b s hk hx), hB.trans (belowK_b (w := w) (Nat.le_refl _) W D _ _ (by omega) hKd rfl rfl)⟩
end Go.Proofs.YtcogdfgmmpfkkaaGreatDoor

namespace Go.Proofs.YtcogdfgmmpfkkaaGreatDoor
open Go.RowKit Go.Shelf
attribute [local go_sem] Oper.semAt_some
attribute [local go_sem] wide_fn wide_depth wide_round

/-! ## The table of bases -/
def Tab (W : World) : Prop := W.cell? ⟨0, 0, none⟩ = some (.int .u64 10) ∧ W.cell? ⟨0, 1, none⟩ = some (.int .u64 16)
theorem Tab.lt {W : World} (h : Tab W) : 0 < W.heap.size := by
  rcases Nat.lt_or_ge 0 W.heap.size with h' | h'
  · exact h'
  · have := h.1
    simp [World.cell?, Array.getElem?_eq_none h'] at this
theorem Tab.below {W W' : World} (h : Tab W) (hb : Below W.heap.size W W') : Tab W' :=
  ⟨(hb.cell (p := ⟨0, 0, none⟩) h.lt).trans h.1, (hb.cell (p := ⟨0, 1, none⟩) h.lt).trans h.2⟩

theorem number_any (b : Int) (hb : Is64 b) (s : ByteArray) (hm : s.size ≤ 9223372036854775807) (w : World) :
    Calls Tryz.prog 104 #[.agg #[.string s, .int .u64 b]] w fun e w' => e = Two (numR b s.data.toList) ∧ Below w.heap.size w w' := by
  cases hs : ((s.size : Int) == 0) with
  | false => exact callsIn_wide.1 (number_in 3 (by omega) b hb s hs hm w)
  | true =>
    rw [beq_iff_eq] at hs
    have : s.data = #[] := Array.eq_empty_of_size_eq_zero (by have : s.size = s.data.size := rfl; omega)
    obtain ⟨d⟩ := s
    simp only at this
    subst this
    exact number_empty b w

def parseR (l : List UInt8) : Int × Int := if padB l = true then (0, 110) else numR 10 l
theorem is64_10 : Is64 10 := ⟨by omega, by omega⟩
theorem is64_16 : Is64 16 := ⟨by omega, by omega⟩
section
set_option maxHeartbeats 400000
theorem hexDigitsCall_any (s : ByteArray) (hm : s.size ≤ 9223372036854775807) (w : World) (hT : Tab w) :
    Calls Tryz.prog 89 #[.string s] w fun e w' => e = Two (numR 16 s.data.toList) ∧ Below w.heap.size w w' := by
  obtain ⟨t0, t1⟩ := hT
  go_enter Tryz.func89, Tryz.ntmps89
  go_wp2_with (go_at_call 104; refine (number_any _ is64_16 s hm _).mono ?_; rintro e w' ⟨rfl, hb⟩; simp only [Two])
  go_ret2
  exact ⟨two_of rfl, by assumption⟩
theorem hexCall_any (x : Nat) (hx : x < 18446744073709551616) (w : World) (hT : Tab w) :
    Calls Tryz.prog 61 #[.int .u64 x] w fun e w' => (∃ K, IsLen 16 x K ∧ e = .returned (.string ⟨(txt 16 x K).toArray⟩)) ∧ Below w.heap.size w w' := by
  obtain ⟨t0, t1⟩ := hT
  have hc := fun w => callsIn_wide.1 (written_in 3 (by omega) 16 x (.inr rfl) hx w)
  go_enter Tryz.func61, Tryz.ntmps61
  go_wp2_with (go_at_call 79; refine (hc _).mono ?_; rintro e w' ⟨⟨K, hK, rfl⟩, hb⟩)
  go_ret
  exact ⟨⟨_, by assumption, rfl⟩, by assumption⟩
end

/-! ## The document's reading -/
theorem err_add {a b : Int} (h : ¬ (addR a b).2 = 0) : addR a b = (0, 111) := by
  unfold addR at *; split at h
  · exact absurd rfl h
  · rename_i h'; rw [if_neg h']
theorem err_mul {a b : Int} (h : ¬ (mulR a b).2 = 0) : mulR a b = (0, 111) := by
  unfold mulR at *; split at h
  · exact absurd rfl h
  · rename_i h'; rw [if_neg h']
theorem goesR_take (b : Int) (l : List UInt8) {k : Nat} (hk : k < l.length) : goesR b (l.take (k + 1)) = step b (goesR b (l.take k)) ((l[k]).toNat : Int) := by
  rw [List.take_succ_eq_append_getElem hk, goesR_snoc]
theorem goesR_stuck (b : Int) (l : List UInt8) (k : Nat) (h : ¬ (goesR b (l.take k)).2 = 0) : goesR b l = goesR b (l.take k) := by
  have key : ∀ (l' : List UInt8) (r : Int × Int), ¬ r.2 = 0 → l'.foldl (fun r c => step b r (c.toNat : Int)) r = r := by
    intro l'
    induction l' with
    | nil => intro r _; rfl
    | cons c l' ih => intro r hr; simp only [List.foldl_cons]; rw [step_stay hr]; exact ih r hr
  have e : goesR b l = (l.drop k).foldl (fun r c => step b r (c.toNat : Int)) (goesR b (l.take k)) := by
    unfold goesR
    rw [← List.foldl_append, List.take_append_drop]
  rw [e]
  exact key _ _ h
def ReadRel (b : Int) (l : List UInt8) (i n : Value) : Prop := ∃ k : Nat, k ≤ l.length ∧ i = .int .i64 k ∧ n = .int .u64 (goesR b (l.take k)).1 ∧ (goesR b (l.take k)).2 = 0
def ScanRel (b : Int) (l : List UInt8) (i : Value) : Prop := ∃ k : Nat, k ≤ l.length ∧ i = .int .i64 k ∧ ∀ c ∈ l.take k, isDig b (c.toNat : Int) = true

section
set_option maxHeartbeats 400000
end
end Go.Proofs.YtcogdfgmmpfkkaaGreatDoor
