import Derived.RangeFuncNested
import Derived.RangeFuncBox
import Derived.RangeFuncBound
import Derived.RangeFuncCalls
import Derived.RangeFuncLeaves
import Derived.Shelf.Abstract
import Derived.Shelf.RegionOpen
import Derived.WalkKit
import Derived.OwnWalkIn
import Derived.TacticsInMore
import Derived.LoopNIn
import Derived.LoopIn
import Derived.Lib.Hide
import Derived.BigRegionIn
import Derived.Test.YtabgpnieekcdhaaDoorB
namespace Go.Proofs.YtabgpnieekcdhaaDoor
open Go.RowKit Go.Shelf
attribute [local go_sem] Oper.semAt_some
attribute [local go_sem] wide_fn wide_depth wide_round

/-- What a number's text has: its digits' signs, the highest one ahead. -/
def txt (b x K : Nat) : List UInt8 := (upto (fun k => sgn (digAt b x k)) K).reverse

/-- The room in which the digits are written, from its end on. -/
def room (pre : List (Nat × Fin 16)) : Array Value := ((List.replicate (20 - pre.length) (Value.int .u8 0)) ++ (pre.map fun y => Value.int .u8 ((sgn y.2.val).toNat : Int)).reverse).toArray

theorem room_snoc (pre : List (Nat × Fin 16)) (y : Nat × Fin 16) (h : pre.length < 20) : room (pre ++ [y]) = (room pre).setIfInBounds (20 - pre.length - 1) (.int .u8 ((sgn y.2.val).toNat : Int)) := by
  unfold room
  apply Array.ext'
  simp only [Array.toList_setIfInBounds]
  rw [show 20 - pre.length = (20 - (pre ++ [y]).length) + 1 from by simp; omega]
  rw [List.replicate_succ', List.append_assoc, Nat.add_sub_cancel, List.set_append_right _ _ (by simp)]
  simp
theorem room_at (pre : List (Nat × Fin 16)) (h : pre.length < 20) : (room pre)[20 - pre.length - 1]? = some (.int .u8 0) := by
  unfold room
  rw [List.getElem?_toArray, List.getElem?_append_left (by simp; omega), List.getElem?_replicate, if_pos (by omega)]
theorem isLen_le {b x K : Nat} (hb : b = 10 ∨ b = 16) (hx : x < 18446744073709551616) (h : IsLen b x K) : 1 ≤ K ∧ K ≤ 20 := by
  obtain ⟨h1, _, h | h⟩ := h
  · omega
  · have := isLen_small hb hx h; omega

theorem room_txt (b x K j : Nat) (hb : b = 10 ∨ b = 16) (hj : j < (txt b x K).length) : (room (upto (tell b x) K))[20 - K + j]? = some (.int .u8 (((txt b x K)[j]).toNat : Int)) := by
  have hl : (txt b x K).length = K := by simp [txt, upto_length]
  unfold room
  have ht : ∀ k, (tell b x k).2.val = digAt b x k := fun k => Nat.mod_eq_of_lt (Nat.lt_of_lt_of_le (Nat.mod_lt _ (by rcases hb with rfl | rfl <;> omega)) (by rcases hb with rfl | rfl <;> omega))
  have e : ((upto (tell b x) K).map fun y => Value.int .u8 ((sgn y.2.val).toNat : Int)).reverse = (txt b x K).map fun c => Value.int .u8 (c.toNat : Int) := by
    simp [txt, upto, List.map_reverse, Function.comp_def, ht]
  rw [e, upto_length, List.getElem?_toArray, List.getElem?_append_right (by simp)]
  simp [List.getElem?_eq_getElem hj]

set_option maxRecDepth 100000 in
set_option maxHeartbeats 2000000 in
theorem written_in (n : Nat) (hn : 3 ≤ n) (b x : Nat) (hb : b = 10 ∨ b = 16) (hx : x < 18446744073709551616) (w : World) :
    CallsIn Fence.wide n Tryd.prog 51 #[.int .u64 x, .int .u64 b] w fun e w' => (∃ K, IsLen b x K ∧ e = .returned (.string ⟨(txt b x K).toArray⟩)) ∧ Below w.heap.size w w' := by
  have h1 : 1 ≤ n := by omega
  refine callsIn_of_wp_marks Tryd.func51 rfl trivial ?_ rfl
  simp only [Tryd.ntmps51, List.size_toArray, List.length_cons, List.length_nil, Nat.reduceAdd, Nat.reduceSub, Array.replicate_succ, Array.replicate_zero, List.push_toArray, List.append_toArray, List.nil_append, List.cons_append]
  gi_wp2_with (gi_at_call 59; refine (digits_in (n - 1) _ _ _).mono ?_; rintro e w' ⟨rfl, rfl⟩)
  obtain ⟨W0, hW0⟩ : ∃ W0, (w.alloc (.cells #[.int .u8 0, .int .u8 0, .int .u8 0, .int .u8 0, .int .u8 0, .int .u8 0, .int .u8 0, .int .u8 0, .int .u8 0, .int .u8 0, .int .u8 0, .int .u8 0, .int .u8 0, .int .u8 0, .int .u8 0, .int .u8 0, .int .u8 0, .int .u8 0, .int .u8 0, .int .u8 0] 106)) = W0 := ⟨_, rfl⟩
  rw [hW0]
  have z0 : W0.heap.size = w.heap.size + 1 := by rw [← hW0]; simp
  have hr : Has W0 w.heap.size 106 (room []) := by rw [← hW0]; exact Has.new _ _ _
  have hb0 : Below w.heap.size w W0 := by rw [← hW0]; exact (Below.refl _ w).alloc (Nat.le_refl _) _
  clear hW0
  have ha := Has.new W0 3 #[.int .i64 20]
  have hx1 := Has.new (W0.alloc (.cells #[.int .i64 20] 3)) 58 #[.int .u64 x]
  have hx2 := Has.new ((W0.alloc (.cells #[.int .i64 20] 3)).alloc (.cells #[.int .u64 x] 58)) 58 #[.int .u64 b]
  simp only [World.size_alloc, z0] at ha hx1 hx2
  refine wpIn_rangeFunc_ownG rfl h1 (gf := 70) (lb := #[.pointer (some ⟨w.heap.size + 1 + 1, 0, none⟩), .pointer (some ⟨w.heap.size + 1 + 1 + 1, 0, none⟩)]) rfl trivial (enters_of Tryd.func70 (by kernel_rfl) rfl)
    (digits_stops (n - 1) (by omega) b x (w.heap.size + 1 + 1) (w.heap.size + 1 + 1 + 1) hb hx _ (hx1.alloc _) hx2) Kept.trans (kept_b (fun k e => by subst e; simp [z0])) (Below.refl _ _) (fun _ => rfl)
    (fun pre W => Has W w.heap.size 106 (room pre) ∧ Has W (w.heap.size + 1) 3 #[.int .i64 (20 - pre.length)] ∧ Below w.heap.size w W)
    (fun _ _ _ => False)
    (OwnFrom.and (has_from (by simp only [World.size_alloc]; omega) _ _) (OwnFrom.and (has_from (by simp only [World.size_alloc]; omega) _ (fun pre : List (Nat × Fin 16) => #[.int .i64 (20 - pre.length)])) (ownFrom_below (Nat.le_refl _) (by simp only [World.size_alloc]; omega))))
    (fun _ _ _ _ _ hs _ _ => hs)
    ⟨((hr.alloc _).alloc _).alloc _, (ha.alloc _).alloc _, ((hb0.alloc (by omega) _).alloc (by simp only [World.size_alloc]; omega) _).alloc (by simp only [World.size_alloc]; omega) _⟩
    (fun y => { tmps := #[.int .u64 x, .int .u64 b, undef, undef, .string ⟨#[]⟩, .pointer (some ⟨w.heap.size, 0, none⟩), .pointer (some ⟨w.heap.size + 1, 0, none⟩), undef, .int .u8 (y.2.val : Int), .int .u64 x, .int .u64 b, .func (.func 70) #[] #[.pointer (some ⟨w.heap.size + 1 + 1, 0, none⟩), .pointer (some ⟨w.heap.size + 1 + 1 + 1, 0, none⟩)], .int .i64 (y.1 : Int), .int .u8 (y.2.val : Int), undef, undef, undef, undef, undef, undef, undef, undef, undef], defers := [] }) ?assign ?body ?done ?stop
  case assign =>
    intro l y W K hK
    dsimp only [encDig]
    gi_wp2
    exact hK
  case body =>
    rintro l pre y W ⟨hr, ha, hB⟩ hlen
    have ca := ha.cell 0
    have fa := ha.free 0
    have cr := (hr.cell (20 - pre.length - 1)).trans (room_at pre hlen)
    have fr := hr.free (20 - pre.length - 1)
    have hy16 : y.2.val < 16 := y.2.isLt
    gi_wp2
    gi_region
    all_goals
      simp only [signs_get]
      refine ⟨(((KeepsOthers.setCell _ _ _).trans (KeepsOthers.setCell _ _ _)).trans (KeepsOthers.drew _)).from _, (((Kept.refl _ _).setCell (by simp) _).setCell (by simp; omega) _).draws 1, ?_, ?_, ((hB.setCell (by simp) _).setCell (Nat.le_refl _) _).drew⟩
      · rw [room_snoc _ _ hlen]
        exact (hr.other (by omega) _).put _ _
      · have h := (ha.put 0 (.int .i64 (20 - (pre.length : Int) - 1))).other (j := w.heap.size) (i := 20 - pre.length - 1) (by omega) (.int .u8 ((sgn y.2.val).toNat : Int))
        rw [show (20 - ((pre ++ [y]).length : Int)) = 20 - (pre.length : Int) - 1 from by simp; omega]
        exact h
  case done =>
    rintro D ys W hD ⟨K, hK, rfl⟩ ⟨hr, ha, hB⟩ hKd
    simp only [upto_length] at ha
    have ca := ha.cell 0
    have hKb := isLen_le hb hx hK
    have hsl : (Instr.sliceAt 106 (.pointer (some ⟨w.heap.size, 0, none⟩)) (some (.int .i64 (20 - (K : Int)))) none none).run Tryd.prog W = .ok (.slice (some ⟨w.heap.size, 20 - K, none⟩) K K) W := by
      have al : Tryd.prog.arrayLen 106 = 20 := by kernel_rfl
      rw [run_sliceAt_array_l W 106 ⟨w.heap.size, 0, none⟩ (by kernel_rfl) .i64 (20 - (K : Int)) (by omega) (by rw [al]; omega), al]
      rw [show (20 - (K : Int)).toNat = 20 - K from by omega]
      have hs : (sizeOf (Tryd.prog.elem 106)).run Tryd.prog W = .ok 1 W := by kernel_rfl
      rw [hs]
      simp only [Result.andThen, slicedAt]
      rw [if_neg (by omega), show 20 - (20 - K) = K from by omega]
      simp [Addr.add]
      omega
    have hlen : (txt b x K).length = K := by simp [txt, upto_length]
    have hcv := run_convert_bytes_back (P := Tryd.prog) W 26 9 5 ⟨w.heap.size, 20 - K, none⟩ K (txt b x K) Tryd.underlying26 Tryd.underlying5 Tryd.underlying9 (fun j hj => by
      rw [show (Addr.add ⟨w.heap.size, 20 - K, none⟩ j) = ⟨w.heap.size, 20 - K + j, none⟩ from by unfold Addr.add; split <;> simp_all]
      rw [hr.cell]
      exact room_txt b x K j hb hj)
    rw [hlen] at hcv
    clear hlen
    gi_wp2
    refine ⟨by simp, .inl ⟨_, _, rfl, run_takeDeferred hKd, ?_⟩⟩
    exact ⟨_, results_tmp rfl _ _ _, ⟨K, hK, rfl⟩, hB.trans (belowK_b (w := w) (Nat.le_refl _) W D _ _ (by simp only [World.size_alloc] at hD; omega) hKd rfl rfl)⟩
  case stop =>
    rintro D c pre W _ _ h _
    exact h.elim

/-! ## The document's own texts -/
theorem isLen_one {b x K : Nat} (hb : 2 ≤ b) : IsLen b x K → ∀ {K'}, IsLen b x K' → K = K' := by
  have key : ∀ {K K'}, IsLen b x K → IsLen b x K' → ¬ K < K' := by
    rintro K K' ⟨h1, h2, _⟩ ⟨_, _, h3⟩ hlt
    rcases h3 with h3 | h3
    · omega
    · apply h3
      have : b ^ K ≤ b ^ (K' - 1) := Nat.pow_le_pow_right (by omega) (by omega)
      rw [Nat.div_eq_zero_iff] at h2 ⊢
      have : 0 < b ^ K := Nat.pow_pos (by omega)
      omega
  intro h K' h'
  have := key h h'
  have := key h' h
  omega

theorem signs_cut (d : Nat) (h : d < 16) : (⟨#[48, 49, 50, 51, 52, 53, 54, 55, 56, 57, 97, 98, 99, 100, 101, 102]⟩ : ByteArray).extract d (d + 1) = ⟨#[sgn d]⟩ := by
  have : ∀ d : Fin 16, ((⟨#[48, 49, 50, 51, 52, 53, 54, 55, 56, 57, 97, 98, 99, 100, 101, 102]⟩ : ByteArray).extract d.1 (d.1 + 1)).data = #[sgn d.1] := by decide
  have := this ⟨d, h⟩
  revert this
  generalize (⟨#[48, 49, 50, 51, 52, 53, 54, 55, 56, 57, 97, 98, 99, 100, 101, 102]⟩ : ByteArray).extract d (d + 1) = y
  rintro e
  cases y
  exact congrArg ByteArray.mk e
theorem txt_succ (b x k : Nat) : txt b x (k + 1) = sgn (digAt b x k) :: txt b x k := by simp [txt, upto_succ]
theorem txt_length (b x k : Nat) : (txt b x k).length = k := by simp [txt, upto_length]
def ToldRel (b x : Nat) (t s : Value) : Prop := ∃ k m : Nat, k < 20 ∧ m = x / b ^ k ∧ (k = 0 ∨ m ≠ 0) ∧ t = .int .u64 (m : Int) ∧ s = .string ⟨(txt b x k).toArray⟩
theorem told_cat (c : UInt8) (l : List UInt8) : (⟨#[c]⟩ : ByteArray) ++ ⟨l.toArray⟩ = ⟨(c :: l).toArray⟩ := by
  apply ByteArray.ext
  simp [ByteArray.data_append]

theorem told_str (b x k m : Nat) (hm : m = x / b ^ k) : (⟨#[sgn (m % b)]⟩ : ByteArray) ++ ⟨(txt b x k).toArray⟩ = ⟨(txt b x (k + 1)).toArray⟩ := by
  rw [told_cat, txt_succ, digAt, ← hm]
theorem ret_str {s t : ByteArray} (h : s = t) : Ending.returned (.string s) = Ending.returned (.string t) := by rw [h]

set_option maxRecDepth 100000 in
set_option maxHeartbeats 1000000 in
theorem told_any (b x : Nat) (hb : b = 10 ∨ b = 16) (hx : x < 18446744073709551616) (w : World) :
    Calls Tryd.prog 38 #[.int .u64 x, .int .u64 b] w fun e w' => (∃ K, IsLen b x K ∧ e = .returned (.string ⟨(txt b x K).toArray⟩)) ∧ w = w' := by
  go_enter Tryd.func38, Tryd.ntmps38
  go_wp2
  go_loop [0, 5] (fun t s => ToldRel b x t s) (fun t _ => (intOf t).toNat)
  case atStart => exact ⟨0, x, by omega, by simp, .inl rfl, rfl, rfl⟩
  case round =>
    obtain ⟨k, m, hk, hm, hne, rfl, rfl⟩ := hrel
    have hmx : m < 18446744073709551616 := by rw [hm]; exact Nat.lt_of_le_of_lt (Nat.div_le_self _ _) hx
    have hd : (m / b : Nat) = x / b ^ (k + 1) := by rw [hm, Nat.div_div_eq_div_mul, Nat.pow_succ]
    have hd' := Lib.hid hd
    have hm' := Lib.hid hm
    have hne' := Lib.hid hne
    clear hm hne hd
    have hl := txt_length b x k
    have hex := signs_cut (m % b) (by rcases hb with rfl | rfl <;> omega)
    rcases hb with rfl | rfl
    all_goals
      go_wp2
      · have hz := ‹(_ == (0 : Int)) = true›
        rw [beq_iff_eq] at hz
        go_ret
        refine ⟨⟨k + 1, ⟨by omega, ?_, ?_⟩, ret_str (told_str _ _ _ _ hm'.out)⟩, rfl⟩
        · rw [← hd'.out]; omega
        · rcases hne'.out with h | h
          · exact .inl (by omega)
          · exact .inr (by rw [show k + 1 - 1 = k from by omega, ← hm'.out]; exact h)
      · have hz := ‹(_ == (0 : Int)) = false›
        rw [beq_eq_false_iff_ne] at hz
        refine ⟨⟨k + 1, _, ?_, hd'.out, .inr (by omega), by go_num, by rw [told_str _ _ _ _ hm'.out]⟩, by simp [intOf]; omega⟩
        first | exact isLen_small (.inl rfl) hx (by rw [← hd'.out]; omega) | exact isLen_small (.inr rfl) hx (by rw [← hd'.out]; omega)
end Go.Proofs.YtabgpnieekcdhaaDoor
