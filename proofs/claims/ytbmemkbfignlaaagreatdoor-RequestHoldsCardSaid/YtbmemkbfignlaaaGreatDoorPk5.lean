import Derived.RangeFuncNested
import Derived.RangeFuncBox
import Derived.RangeFuncBound
import Derived.RangeFuncCalls
import Derived.RangeFuncLeaves
import Derived.Shelf.Abstract
import Derived.Shelf.RegionOpen
import Derived.WalkKit
import Derived.OwnWalkIn
import Derived.TacticsInMore
import Derived.LoopNIn
import Derived.LoopIn
import Derived.Lib.Hide
import Derived.BigRegionIn
import Derived.Test.YtbmemkbfignlaaaGreatDoorPk4
import Derived.BigQuiet
import Derived.Deep.QuietTactic
namespace Go.Proofs.YtbmemkbfignlaaaGreatDoor
open Go.RowKit Go.Shelf
attribute [local go_sem] Oper.semAt_some
attribute [local go_sem] wide_fn wide_depth wide_round

/-- What a number's text has: its digits' signs, the highest one ahead. -/
def txt (b x K : Nat) : List UInt8 := (upto (fun k => sgn (digAt b x k)) K).reverse

/-- The room in which the digits are written, from its end on. -/
def room (pre : List (Nat × Fin 16)) : Array Value := ((List.replicate (20 - pre.length) (Value.int .u8 0)) ++ (pre.map fun y => Value.int .u8 ((sgn y.2.val).toNat : Int)).reverse).toArray

theorem room_snoc (pre : List (Nat × Fin 16)) (y : Nat × Fin 16) (h : pre.length < 20) : room (pre ++ [y]) = (room pre).setIfInBounds (20 - pre.length - 1) (.int .u8 ((sgn y.2.val).toNat : Int)) := by
  unfold room
  apply Array.ext'
  simp only [Array.toList_setIfInBounds]
  rw [show 20 - pre.length = (20 - (pre ++ [y]).length) + 1 from by simp; omega]
  rw [List.replicate_succ', List.append_assoc, Nat.add_sub_cancel, List.set_append_right _ _ (by simp)]
  simp
theorem room_at (pre : List (Nat × Fin 16)) (h : pre.length < 20) : (room pre)[20 - pre.length - 1]? = some (.int .u8 0) := by
  unfold room
  rw [List.getElem?_toArray, List.getElem?_append_left (by simp; omega), List.getElem?_replicate, if_pos (by omega)]
theorem isLen_le {b x K : Nat} (hb : b = 10 ∨ b = 16) (hx : x < 18446744073709551616) (h : IsLen b x K) : 1 ≤ K ∧ K ≤ 20 := by
  obtain ⟨h1, _, h | h⟩ := h
  · omega
  · have := isLen_small hb hx h; omega

theorem room_txt (b x K j : Nat) (hb : b = 10 ∨ b = 16) (hj : j < (txt b x K).length) : (room (upto (tell b x) K))[20 - K + j]? = some (.int .u8 (((txt b x K)[j]).toNat : Int)) := by
  have hl : (txt b x K).length = K := by simp [txt, upto_length]
  unfold room
  have ht : ∀ k, (tell b x k).2.val = digAt b x k := fun k => Nat.mod_eq_of_lt (Nat.lt_of_lt_of_le (Nat.mod_lt _ (by rcases hb with rfl | rfl <;> omega)) (by rcases hb with rfl | rfl <;> omega))
  have e : ((upto (tell b x) K).map fun y => Value.int .u8 ((sgn y.2.val).toNat : Int)).reverse = (txt b x K).map fun c => Value.int .u8 (c.toNat : Int) := by
    simp [txt, upto, List.map_reverse, Function.comp_def, ht]
  rw [e, upto_length, List.getElem?_toArray, List.getElem?_append_right (by simp)]
  simp [List.getElem?_eq_getElem hj]

/-! ## The document's own texts -/
theorem isLen_one {b x K : Nat} (hb : 2 ≤ b) : IsLen b x K → ∀ {K'}, IsLen b x K' → K = K' := by
  have key : ∀ {K K'}, IsLen b x K → IsLen b x K' → ¬ K < K' := by
    rintro K K' ⟨h1, h2, _⟩ ⟨_, _, h3⟩ hlt
    rcases h3 with h3 | h3
    · omega
    · apply h3
      have : b ^ K ≤ b ^ (K' - 1) := Nat.pow_le_pow_right (by omega) (by omega)
      rw [Nat.div_eq_zero_iff] at h2 ⊢
      have : 0 < b ^ K := Nat.pow_pos (by omega)
      omega
  intro h K' h'
  have := key h h'
  have := key h' h
  omega

theorem signs_cut (d : Nat) (h : d < 16) : (⟨#[48, 49, 50, 51, 52, 53, 54, 55, 56, 57, 97, 98, 99, 100, 101, 102]⟩ : ByteArray).extract d (d + 1) = ⟨#[sgn d]⟩ := by
  have : ∀ d : Fin 16, ((⟨#[48, 49, 50, 51, 52, 53, 54, 55, 56, 57, 97, 98, 99, 100, 101, 102]⟩ : ByteArray).extract d.1 (d.1 + 1)).data = #[sgn d.1] := by decide
  have := this ⟨d, h⟩
  revert this
  generalize (⟨#[48, 49, 50, 51, 52, 53, 54, 55, 56, 57, 97, 98, 99, 100, 101, 102]⟩ : ByteArray).extract d (d + 1) = y
  rintro e
  cases y
  exact congrArg ByteArray.mk e
theorem txt_succ (b x k : Nat) : txt b x (k + 1) = sgn (digAt b x k) :: txt b x k := by simp [txt, upto_succ]
theorem txt_length (b x k : Nat) : (txt b x k).length = k := by simp [txt, upto_length]
def ToldRel (b x : Nat) (t s : Value) : Prop := ∃ k m : Nat, k < 20 ∧ m = x / b ^ k ∧ (k = 0 ∨ m ≠ 0) ∧ t = .int .u64 (m : Int) ∧ s = .string ⟨(txt b x k).toArray⟩
theorem told_cat (c : UInt8) (l : List UInt8) : (⟨#[c]⟩ : ByteArray) ++ ⟨l.toArray⟩ = ⟨(c :: l).toArray⟩ := by
  apply ByteArray.ext
  simp [ByteArray.data_append]

theorem told_str (b x k m : Nat) (hm : m = x / b ^ k) : (⟨#[sgn (m % b)]⟩ : ByteArray) ++ ⟨(txt b x k).toArray⟩ = ⟨(txt b x (k + 1)).toArray⟩ := by
  rw [told_cat, txt_succ, digAt, ← hm]
theorem ret_str {s t : ByteArray} (h : s = t) : Ending.returned (.string s) = Ending.returned (.string t) := by rw [h]

end Go.Proofs.YtbmemkbfignlaaaGreatDoor

namespace Go.Proofs.YtbmemkbfignlaaaGreatDoor
open Go.RowKit Go.Shelf
attribute [local go_sem] Oper.semAt_some
attribute [local go_sem] wide_fn wide_depth wide_round

/-! ## What digits are worth -/
def worth (c : Int) : Int := if 48 ≤ c ∧ c ≤ 57 then c - 48 else if 97 ≤ c ∧ c ≤ 102 then c - 87 else if 65 ≤ c ∧ c ≤ 70 then c - 55 else 16
def isDig (b c : Int) : Bool := decide (worth c < b)
def moreR (b n c : Int) : Int × Int := if (mulR n b).2 = 0 then addR (mulR n b).1 (worth c) else (0, (mulR n b).2)
theorem worth_64 (c : Int) : Is64 (worth c) := by unfold worth Is64; constructor <;> (repeat' split) <;> omega
section
set_option maxHeartbeats 400000
theorem worth_any (c : Int) (w : World) (h0 : 0 ≤ c) (h1 : c < 256) : Calls Tryz.prog 218 #[.int .u8 c] w fun e w' => e = .returned (.int .u64 (worth c)) ∧ w = w' := by
  have hw : 48 ≤ c ∧ c ≤ 57 ∨ 97 ≤ c ∧ c ≤ 102 ∨ 65 ≤ c ∧ c ≤ 70 ∨ c < 48 ∨ 57 < c ∧ c < 65 ∨ 70 < c ∧ c < 97 ∨ 102 < c := by omega
  rcases hw with h | h | h | h | h | h | h
  all_goals
    go_enter Tryz.func218, Tryz.ntmps218
    go_wp2
    go_ret
    refine ⟨ret_u64 ?_, rfl⟩
    unfold worth
    (repeat' split) <;> omega
theorem refDigit_any (c : Int) (w : World) (h0 : 0 ≤ c) (h1 : c < 256) : Calls Tryz.prog 80 #[.int .u8 c] w fun e w' => e = .returned (.int .u64 (worth c)) ∧ w = w' := by
  have hw : 48 ≤ c ∧ c ≤ 57 ∨ 97 ≤ c ∧ c ≤ 102 ∨ 65 ≤ c ∧ c ≤ 70 ∨ c < 48 ∨ 57 < c ∧ c < 65 ∨ 70 < c ∧ c < 97 ∨ 102 < c := by omega
  rcases hw with h | h | h | h | h | h | h
  all_goals
    go_enter Tryz.func80, Tryz.ntmps80
    go_wp2
    go_ret
    refine ⟨ret_u64 ?_, rfl⟩
    unfold worth
    (repeat' split) <;> omega
theorem digitTo1_any (c b : Int) (B : Nat) (w : World) (h0 : 0 ≤ c) (h1 : c < 256) (hB : w.cell? ⟨B, 0, none⟩ = some (.int .u64 b)) :
    Calls Tryz.prog 217 #[.int .u8 c, .pointer (some ⟨B, 0, none⟩)] w fun e w' => e = .returned (.bool (isDig b c)) ∧ ∃ q, w' = w.drewN q := by
  go_enter Tryz.func217, Tryz.ntmps217
  go_wp2
  go_quiet ((go_at_call 218; exact Calls.quiet_of_same ((worth_any _ _ (by omega) (by omega)).mono fun e w' ⟨h, h'⟩ => ⟨h, h'.symm⟩)))
  all_goals go_wp2
  all_goals go_ret
  all_goals exact ⟨rfl, _, rfl⟩
theorem digitTo_any (b : Int) (w : World) : Calls Tryz.prog 209 #[.int .u64 b] w fun e w' => e = .returned (.func (.func 217) #[] #[.pointer (some ⟨w.heap.size, 0, none⟩)]) ∧ w' = w.alloc (.cells #[.int .u64 b] 123) := by
  go_enter Tryz.func209, Tryz.ntmps209
  go_wp2
  go_ret
  exact ⟨rfl, rfl⟩
theorem all_any (s : ByteArray) (w : World) : Calls Tryz.prog 211 #[.string s] w fun e w' => e = .returned (.func (.func 219) #[] #[.pointer (some ⟨w.heap.size, 0, none⟩)]) ∧ w' = w.alloc (.cells #[.string s] 226) := by
  go_enter Tryz.func211, Tryz.ntmps211
  go_wp2
  go_ret
  exact ⟨rfl, rfl⟩
theorem empty_yes (w : World) : Calls Tryz.prog 210 #[.string ⟨#[]⟩] w fun e w' => e = .returned (.bool true) ∧ w = w' := by
  go_enter Tryz.func210, Tryz.ntmps210
  go_wp2
  go_ret
  exact ⟨rfl, rfl⟩
theorem empty_no (s : ByteArray) (w : World) (hs : ((s.size : Int) == 0) = false) : Calls Tryz.prog 210 #[.string s] w fun e w' => e = .returned (.bool false) ∧ w = w' := by
  go_enter Tryz.func210, Tryz.ntmps210
  go_wp2
  go_ret
  exact ⟨rfl, rfl⟩
/-- A nought stands ahead of others. -/
def padB (l : List UInt8) : Bool := decide (1 < l.length) && l[0]?.getD 0 == 48
theorem mulR_64 {a b : Int} (ha : Is64 a) (hb : Is64 b) : Is64 (mulR a b).1 := by
  have := Int.mul_nonneg ha.1 hb.1
  unfold mulR Is64 at *; split <;> constructor <;> simp <;> omega
theorem more_any (s : ByteArray) (b n c : Int) (w : World) (hb : Is64 b) (hn : Is64 n) (h0 : 0 ≤ c) (h1 : c < 256) :
    Calls Tryz.prog 212 #[.agg #[.string s, .int .u64 b], .int .u64 n, .int .u8 c] w fun e w' => e = Two (moreR b n c) ∧ Below w.heap.size w w' := by
  have hc := fun w => mul_any n b w hn hb
  have h64 := mulR_64 hn hb
  have hr : moreR b n c = if (mulR n b).2 = 0 then addR (mulR n b).1 (worth c) else (0, (mulR n b).2) := rfl
  generalize mulR n b = r at hc h64 hr
  have hw := worth_64 c
  have ha := fun w => add_any r.1 (worth c) w h64 hw
  generalize addR r.1 (worth c) = t at ha hr
  have hr' := Lib.hid hr
  have hc' := Lib.hid hc
  have ha' := Lib.hid ha
  clear hr hc ha h64 hw
  by_cases hz : r.2 = 0
  · have hz1 : (r.2 != 0) = false := by rw [bne_eq_false_iff_eq]; exact hz
    have hz' := Lib.hid hz
    clear hz
    go_enter Tryz.func212, Tryz.ntmps212
    go_wp2_with (first | (go_at_call 220; refine (hc'.out _).mono ?_; rintro e w' ⟨rfl, rfl⟩; simp only [Two]) | (go_at_call 218; refine (worth_any _ _ (by omega) (by omega)).mono ?_; rintro e w' ⟨rfl, rfl⟩) | (go_at_call 221; refine (ha'.out _).mono ?_; rintro e w' ⟨rfl, rfl⟩; simp only [Two]))
    go_ret2
    exact ⟨two_of (hr'.out.trans (if_pos hz'.out)), (Below.refl _ _).alloc (Nat.le_refl _) _⟩
  · have hz1 : (r.2 != 0) = true := by rw [bne_iff_ne]; exact hz
    have hz' := Lib.hid hz
    clear hz
    go_enter Tryz.func212, Tryz.ntmps212
    go_wp2_with (first | (go_at_call 220; refine (hc'.out _).mono ?_; rintro e w' ⟨rfl, rfl⟩; simp only [Two]))
    go_ret2
    exact ⟨two_of (hr'.out.trans (if_neg hz'.out)), (Below.refl _ _).alloc (Nat.le_refl _) _⟩
end
end Go.Proofs.YtbmemkbfignlaaaGreatDoor
