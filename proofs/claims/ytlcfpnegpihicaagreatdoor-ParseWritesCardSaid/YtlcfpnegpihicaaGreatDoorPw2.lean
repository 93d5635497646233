import Derived.Test.YtlcfpnegpihicaaGreatDoorPw1
import Derived.Outline
import Derived.Shelf.Bits.Mul64
import Derived.Test.YtlcfpnegpihicaaGreatDoorProg
import Derived.Test.YtlcfpnegpihicaaGreatDoorRows
import Derived.Lib.Hide
import Derived.WalkKit
import Derived.WalkSpells
import Derived.WalkLawsBesides
import Derived.RangeFuncNested
import Derived.RangeFuncBox
import Derived.RangeFuncBound
import Derived.RangeFuncCalls
import Derived.RangeFuncLeaves
import Derived.Shelf.Abstract
import Derived.Shelf.RegionOpen
import Derived.OwnWalkIn
import Derived.TacticsInMore
import Derived.LoopNIn
import Derived.LoopIn
import Derived.BigRegionIn
namespace Go.Proofs.YtlcfpnegpihicaaGreatDoor
open Go.RowKit Go.Maps

/-! ## What a line says -/
def fieldF (l : List UInt8) : Int × List UInt8 × List UInt8 :=
  if l = [] then (1, [], []) else if Lib.hasPrefix l [58] = true then (2, [], Lib.trimPrefix l [58]) else (kindK (Lib.cut l [58]).1, (Lib.cut l [58]).1, Lib.trimPrefix (Lib.cut l [58]).2.1 [32])
def MaxT (W : World) : Prop := ∃ m, Has W 4 3 #[.int .i64 m]
theorem MaxT.below {W W' : World} (h : MaxT W) (hb : Below W.heap.size W W') : MaxT W' := by
  obtain ⟨m, h⟩ := h
  exact ⟨m, h.below hb h.lt⟩
theorem NamesT.belowB {B : Nat} {W W' : World} (h : NamesT W) (hb : Below B W W') (hB : 5 < B) : NamesT W' := by
  obtain ⟨t, h⟩ := h
  exact ⟨t, (hb.block _ hB).trans h⟩
def undCells (f : Int × List UInt8 × List UInt8) (l : List UInt8) : Array Value := #[.int .i64 (f.1 : Int), .string ⟨f.2.1.toArray⟩, .string ⟨f.2.2.toArray⟩, .string ⟨l.toArray⟩]
def ReadF (B k : Nat) (l : List UInt8) (w : World) (e : Ending) (w' : World) : Prop := e = .returned (.tuple #[]) ∧ Has w' k 191 (undCells (fieldF l) l) ∧ Below B w w'
set_option maxRecDepth 100000 in
theorem readF_any (B k : Nat) (l : List UInt8) (w : World) (hk : Has w k 191 (undCells (0, [], []) l)) (hl : l.length ≤ 1000000) (hB : B ≤ k) (hN : NamesT w) (hNB : 5 < B) (hM : MaxT w) (__hMB : 4 < B) :
    Calls Tryz.prog 103 #[.pointer (some ⟨k, 0, none⟩)] w (ReadF B k l w) := by
  have c0 := hk.cell 0
  have c1 := hk.cell 1
  have c2 := hk.cell 2
  have c3 := hk.cell 3
  simp [undCells] at c0 c1 c2 c3
  have f0 := hk.free 0
  have f1 := hk.free 1
  have f2 := hk.free 2
  have hk' := Lib.hid hk
  have hN' := Lib.hid hN
  obtain ⟨m, hm⟩ := hM
  have hcp := Lib.hid (Tryz.strings_CutPrefix ⟨l.toArray⟩ ⟨#[58]⟩ w)
  have hct := Lib.hid (Tryz.strings_Cut ⟨l.toArray⟩ ⟨#[58]⟩ m w (by show l.toArray.size < _; simp; omega) (hm.cell 0))
  clear hk hN hm
  by_cases h1 : l = []
  · subst h1
    go_enter Tryz.func103, Tryz.ntmps103
    go_wp2_with (go_at_call 125; (with_reducible refine Calls.mono hcp.out ?_); rintro e w2 ⟨rfl, rfl⟩)
    refine bodyPost_end (results_none rfl _ _ _) rfl ?_
    exact ⟨rfl, by simpa [undCells, fieldF] using hk'.out.put 0 (.int .i64 1), (Below.refl _ _).setCell (p := ⟨k, 0, none⟩) hB _⟩
  · have hie : l.isEmpty = false := by
      cases l with
      | nil => exact absurd rfl h1
      | cons x r => rfl
    cases h2 : Lib.hasPrefix l [58] with
    | true =>
      rw [show (ByteArray.mk l.toArray).data.toList = l from by simp, show (ByteArray.mk #[58]).data.toList = [58] from rfl, h2] at hcp
      go_enter Tryz.func103, Tryz.ntmps103
      go_wp2_with (go_at_call 125; (with_reducible refine Calls.mono hcp.out ?_); rintro e w2 ⟨rfl, rfl⟩)
      refine bodyPost_end (results_none rfl _ _ _) rfl ?_
      refine ⟨rfl, ?_, ((Below.refl _ _).setCell (p := ⟨k, 0, none⟩) hB _).setCell (p := ⟨k, 2, none⟩) hB _⟩
      have := (hk'.out.put 0 (.int .i64 2)).put 2 (.string ⟨(Lib.trimPrefix l [58]).toArray⟩)
      simpa [undCells, fieldF, h1, h2] using this
    | false =>
      rw [show (ByteArray.mk l.toArray).data.toList = l from by simp, show (ByteArray.mk #[58]).data.toList = [58] from rfl, h2] at hcp
      rw [show (ByteArray.mk l.toArray).data.toList = l from by simp, show (ByteArray.mk #[58]).data.toList = [58] from rfl] at hct
      have hff : fieldF l = ((kindK (Lib.cut l [58]).1 : Int), (Lib.cut l [58]).1, Lib.trimPrefix (Lib.cut l [58]).2.1 [32]) := by
        unfold fieldF
        rw [if_neg h1, h2]
        rfl
      have hn1 : (Lib.cut l [58]).1.length ≤ 1000000 := by
        unfold Lib.cut
        split
        · simp; omega
        · exact hl
      obtain ⟨nm, hnm⟩ : ∃ nm, (Lib.cut l [58]).1 = nm := ⟨_, rfl⟩
      obtain ⟨vl, hvl⟩ : ∃ vl, (Lib.cut l [58]).2.1 = vl := ⟨_, rfl⟩
      rw [hnm, hvl] at hff
      rw [hnm] at hn1
      rw [hnm, hvl] at hct
      have htp := Lib.hid (fun W => Tryz.strings_TrimPrefix ⟨vl.toArray⟩ ⟨#[32]⟩ W)
      rw [show (ByteArray.mk vl.toArray).data.toList = vl from by simp, show (ByteArray.mk #[32]).data.toList = [32] from rfl] at htp
      have hkd := Lib.hid (fun W (hb : Below B w W) => kindOf_any ⟨nm.toArray⟩ W (by show nm.toArray.size ≤ _; simp [maxLen]; omega) (hN'.out.belowB hb hNB))
      rw [show (ByteArray.mk nm.toArray).data.toList = nm from by simp] at hkd
      obtain ⟨tv, htv⟩ : ∃ tv, Lib.trimPrefix vl [32] = tv := ⟨_, rfl⟩
      rw [htv] at hff htp
      have hff' := Lib.hid hff
      clear hff hnm hvl htv h2
      go_enter Tryz.func103, Tryz.ntmps103
      go_wp2_with (first
        | (go_at_call 125; (with_reducible refine Calls.mono hcp.out ?_); rintro e w2 ⟨rfl, rfl⟩)
        | (go_at_call 126; (with_reducible refine Calls.mono hct.out ?_); rintro e w3 ⟨rfl, n3, rfl⟩)
        | (go_at_call 120; (with_reducible refine Calls.mono (htp.out _) ?_); rintro e w4 ⟨rfl, rfl⟩)
        | (go_at_call 127; refine (hkd.out _ ((((below_draws (Below.refl _ _) n3).setCell (p := ⟨k, 1, none⟩) hB _).setCell (p := ⟨k, 2, none⟩) hB _).setCell (p := ⟨k, 2, none⟩) hB _)).mono ?_; rintro e w5 ⟨rfl, hb5⟩; have kq0 := (((hk'.out.drewN n3).put 1 (.string ⟨nm.toArray⟩)).put 2 (.string ⟨vl.toArray⟩)).put 2 (.string ⟨tv.toArray⟩); have kq := kq0.below hb5 kq0.lt; have y0 := kq.cell 0; have q0 := kq.free 0; have kq' := Lib.hid kq; have hB5 := Lib.hid (((((below_draws (Below.refl B w2) n3).setCell (p := ⟨k, 1, none⟩) hB (.string ⟨nm.toArray⟩)).setCell (p := ⟨k, 2, none⟩) hB (.string ⟨vl.toArray⟩)).setCell (p := ⟨k, 2, none⟩) hB (.string ⟨tv.toArray⟩)).trans (hb5.mono (by have := kq0.lt; omega))); clear kq kq0 hb5))
      refine bodyPost_end (results_none rfl _ _ _) rfl ?_
      refine ⟨rfl, ?_, hB5.out.setCell (p := ⟨k, 0, none⟩) hB _⟩
      have := kq'.out.put 0 (.int .i64 (kindK nm : Int))
      rw [hff'.out]
      simpa [undCells] using this
end Go.Proofs.YtlcfpnegpihicaaGreatDoor

/- The contracts of the library that these proofs lean on, laid at this program by the guide's own command, in plain words. -/
namespace Go.Proofs
open Go.Shelf
def Tryz.lays264_ren : Go.Shelf.Ren := ⟨fun | 264 => 171 | n => n, fun | 53 => 38 | 46 => 246 | n => n, fun | n => n⟩
theorem Tryz.lays264 : Go.Proofs.Lays.n264 Tryz.prog Tryz.lays264_ren := {
  mixed := by kernel_rfl
  f264 := Tryz.func171.trans (congrArg some (by kernel_rfl))
  t46 := Tryz.underlying246
  a46 := Tryz.isAgg246
  z46 := Tryz.sizeOf246
  v46 := Tryz.zeroValue246
  t53 := Tryz.underlying38
  a53 := Tryz.isAgg38
  z53 := Tryz.sizeOf38
  v53 := Tryz.zeroValue38 }
open Go.RowKit Go.Lib in
theorem Tryz.bits_Mul64 (x y : Nat) (hx : x < 18446744073709551616) (hy : y < 18446744073709551616) (w : World) :
    Calls Tryz.prog 171 #[.int .u64 x, .int .u64 y] w fun e w' => e = .returned (.tuple #[.int .u64 ((x * y / 18446744073709551616 : Nat) : Int), .int .u64 ((x * y % 18446744073709551616 : Nat) : Int)]) ∧ w' = w := Any.bits_Mul64 Tryz.lays264 x y hx hy w
end Go.Proofs

namespace Go.Proofs.YtlcfpnegpihicaaGreatDoor
open Go.RowKit

/-! What the calls of layer 1 answer: the value, the error's number. -/
def addR (a b : Int) : Int × Int := if a + b < 18446744073709551616 then (a + b, 0) else (0, 111)
def mulR (a b : Int) : Int × Int := if a * b < 18446744073709551616 then (a * b, 0) else (0, 111)
def Is64 (a : Int) : Prop := 0 ≤ a ∧ a < 18446744073709551616

theorem addR_64 {a b : Int} (ha : Is64 a) (hb : Is64 b) : Is64 (addR a b).1 := by
  unfold addR Is64 at *; split <;> constructor <;> simp <;> omega

def Two (r : Int × Int) : Ending := .returned (.tuple #[.int .u64 r.1, .int .i64 r.2])
theorem two_of {r : Int × Int} {x y : Int} (h : r = (x, y)) : Ending.returned (.tuple #[.int .u64 x, .int .i64 y]) = Two r := by rw [h]; rfl

section
variable (a b c : Int) (w : World)
set_option maxHeartbeats 400000

theorem refAdd_any (ha : Is64 a) (hb : Is64 b) : Calls Tryz.prog 115 #[.int .u64 a, .int .u64 b] w fun e w' => e = Two (addR a b) ∧ w = w' := by
  obtain ⟨ha0, ha⟩ := ha
  obtain ⟨hb0, hb⟩ := hb
  go_enter Tryz.func115, Tryz.ntmps115
  go_wp2
  all_goals go_ret2
  all_goals refine ⟨two_of ?_, rfl⟩
  all_goals first | exact if_pos (by omega) | exact if_neg (by omega)
theorem run_add64_lo (ha : Is64 a) (hb : Is64 b) (h : a + b < 18446744073709551616) :
    (callFunc 172 #[.int .u64 a, .int .u64 b, .int .u64 0]).run Tryz.prog w = .ok (.value (.tuple #[.int .u64 (a + b), .int .u64 0])) w := by
  obtain ⟨ha0, ha⟩ := ha
  obtain ⟨hb0, hb⟩ := hb
  rw [run_callFunc_extern Tryz.func172 (by kernel_rfl) (by kernel_rfl) (by kernel_rfl) (e := add64Entry) (by kernel_rfl), run_add64 a b 0 ha0 hb0 (by omega) (by omega)]
  simp only [Result.andThen]
  rw [show (a + b + 0) % 18446744073709551616 = a + b from by omega, show (a + b + 0) / 18446744073709551616 = 0 from by omega]
theorem run_add64_hi (ha : Is64 a) (hb : Is64 b) (h : 18446744073709551616 ≤ a + b) :
    (callFunc 172 #[.int .u64 a, .int .u64 b, .int .u64 0]).run Tryz.prog w = .ok (.value (.tuple #[.int .u64 (a + b - 18446744073709551616), .int .u64 1])) w := by
  obtain ⟨ha0, ha⟩ := ha
  obtain ⟨hb0, hb⟩ := hb
  rw [run_callFunc_extern Tryz.func172 (by kernel_rfl) (by kernel_rfl) (by kernel_rfl) (e := add64Entry) (by kernel_rfl), run_add64 a b 0 ha0 hb0 (by omega) (by omega)]
  simp only [Result.andThen]
  rw [show (a + b + 0) % 18446744073709551616 = a + b - 18446744073709551616 from by omega, show (a + b + 0) / 18446744073709551616 = 1 from by omega]
theorem add_any (ha : Is64 a) (hb : Is64 b) : Calls Tryz.prog 166 #[.int .u64 a, .int .u64 b] w fun e w' => e = Two (addR a b) ∧ w = w' := by
  by_cases h : a + b < 18446744073709551616
  · have hadd := run_add64_lo a b w ha hb h
    go_enter Tryz.func166, Tryz.ntmps166
    go_wp2
    go_ret2
    exact ⟨two_of (if_pos h), rfl⟩
  · have hadd := run_add64_hi a b w ha hb (by omega)
    have h' := Lib.hid h; clear h
    go_enter Tryz.func166, Tryz.ntmps166
    go_wp2
    go_ret2
    exact ⟨two_of (if_neg (by have := h'.out; omega)), rfl⟩
theorem mulR_lo (h : a * b < 18446744073709551616) : mulR a b = (a * b, 0) := if_pos h
theorem mulR_hi (h : 18446744073709551616 ≤ a * b) : mulR a b = (0, 111) := if_neg (by omega)
theorem quot_lt (ha : 0 < a) (h : 18446744073709551615 / a < b) : 18446744073709551616 ≤ a * b := by
  have := (Int.ediv_lt_iff_lt_mul ha).1 h
  rw [Int.mul_comm] at this
  omega
theorem quot_le (ha : 0 < a) (h : b ≤ 18446744073709551615 / a) : a * b < 18446744073709551616 := by
  have := (Int.le_ediv_iff_mul_le ha).1 h
  rw [Int.mul_comm] at this
  omega
theorem wrap_mul (h0 : 0 ≤ a * b) (h : a * b < 18446744073709551616) : IntKind.u64.wrap (a * b) = a * b := by rw [IntKind.wrap_u64]; omega
theorem refMul_any (ha : Is64 a) (hb : Is64 b) : Calls Tryz.prog 114 #[.int .u64 a, .int .u64 b] w fun e w' => e = Two (mulR a b) ∧ w = w' := by
  obtain ⟨ha0, ha⟩ := ha
  obtain ⟨hb0, hb⟩ := hb
  have h0 := Lib.hid (Int.mul_nonneg ha0 hb0)
  go_enter Tryz.func114, Tryz.ntmps114
  go_wp2
  all_goals go_ret2
  all_goals refine ⟨two_of ?_, rfl⟩
  · rename_i h
    subst h
    rw [mulR_lo _ _ (by omega)]; simp
  · rename_i h1 h2
    exact mulR_hi _ _ (quot_lt _ _ (by omega) h2.2)
  · rename_i h1 h2
    have h3 : a * b < 18446744073709551616 := quot_le _ _ (by omega) (h2.resolve_left (by simpa using h1))
    rw [mulR_lo _ _ h3, wrap_mul _ _ h0.out h3]
/-- The product's upper half is no nought: whatever the halves are. -/
def Upper (e : Ending) : Prop := ∃ h l : Int, e = .returned (.tuple #[.int .u64 h, .int .u64 l]) ∧ (h != 0) = true
theorem mul64_lo (ha : Is64 a) (hb : Is64 b) (h : a * b < 18446744073709551616) : Calls Tryz.prog 171 #[.int .u64 a, .int .u64 b] w fun e w' => e = .returned (.tuple #[.int .u64 0, .int .u64 (a * b)]) ∧ w = w' := by
  obtain ⟨ha0, ha⟩ := ha
  obtain ⟨hb0, hb⟩ := hb
  obtain ⟨x, rfl⟩ := Int.eq_ofNat_of_zero_le ha0
  obtain ⟨y, rfl⟩ := Int.eq_ofNat_of_zero_le hb0
  refine (Tryz.bits_Mul64 x y (by omega) (by omega) w).mono fun e w' ⟨he, hw⟩ => ⟨?_, hw.symm⟩
  have h' : x * y < 18446744073709551616 := by rw [← Int.natCast_mul] at h; omega
  rw [he, Nat.div_eq_of_lt h', Nat.mod_eq_of_lt h', Int.natCast_mul]
  rfl
theorem mul64_hi (ha : Is64 a) (hb : Is64 b) (h : 18446744073709551616 ≤ a * b) : Calls Tryz.prog 171 #[.int .u64 a, .int .u64 b] w fun e w' => Upper e ∧ w = w' := by
  obtain ⟨ha0, ha⟩ := ha
  obtain ⟨hb0, hb⟩ := hb
  obtain ⟨x, rfl⟩ := Int.eq_ofNat_of_zero_le ha0
  obtain ⟨y, rfl⟩ := Int.eq_ofNat_of_zero_le hb0
  refine (Tryz.bits_Mul64 x y (by omega) (by omega) w).mono fun e w' ⟨he, hw⟩ => ⟨⟨_, _, he, ?_⟩, hw.symm⟩
  have h' : 18446744073709551616 ≤ x * y := by rw [← Int.natCast_mul] at h; omega
  have : 0 < x * y / 18446744073709551616 := Nat.div_pos h' (by omega)
  rw [bne_iff_ne]; omega
theorem mul_any (ha : Is64 a) (hb : Is64 b) : Calls Tryz.prog 165 #[.int .u64 a, .int .u64 b] w fun e w' => e = Two (mulR a b) ∧ w = w' := by
  by_cases h : a * b < 18446744073709551616
  · have hc := Lib.hid (mul64_lo a b w ha hb h)
    have h' := Lib.hid h; clear h ha hb
    go_enter Tryz.func165, Tryz.ntmps165
    go_wp2_with (go_at_call 171; refine hc.out.mono ?_; rintro e w' ⟨rfl, rfl⟩)
    go_ret2
    exact ⟨two_of (if_pos h'.out), rfl⟩
  · have hc := Lib.hid (mul64_hi a b w ha hb (by omega))
    have h' := Lib.hid h; clear h ha hb
    go_enter Tryz.func165, Tryz.ntmps165
    go_wp2_with (go_at_call 171; refine hc.out.mono ?_; rintro e w' ⟨⟨x, y, rfl, hne⟩, rfl⟩)
    go_ret2
    exact ⟨two_of (if_neg (by have := h'.out; omega)), rfl⟩
end
end Go.Proofs.YtlcfpnegpihicaaGreatDoor

namespace Go.Proofs.YtlcfpnegpihicaaGreatDoor
open Go.RowKit Go.Shelf
attribute [local go_sem] Oper.semAt_some
theorem wide_fn (f : FuncId) : Fence.wide.fn f = True := rfl
theorem wide_depth : Fence.wide.depth.isSome = false := rfl
theorem wide_round (l : Nat) (f : FuncId) : (Fence.wide.inRound l).fn f = True := rfl
attribute [local go_sem] wide_fn wide_depth wide_round

/-! ## Digits -/
def upto {α : Type} (f : Nat → α) (k : Nat) : List α := (List.range k).map f
theorem upto_succ {α : Type} (f : Nat → α) (k : Nat) : upto f (k + 1) = upto f k ++ [f k] := by simp [upto, List.range_succ]
theorem upto_length {α : Type} (f : Nat → α) (k : Nat) : (upto f k).length = k := by simp [upto]

def digAt (b n k : Nat) : Nat := n / b ^ k % b
/-- What Each's like tells at a place: what the digit is worth. -/
def tell (b n k : Nat) : Nat × Fin 16 := (k, ⟨digAt b n k % 16, Nat.mod_lt _ (by omega)⟩)
end Go.Proofs.YtlcfpnegpihicaaGreatDoor

namespace Go.Proofs.YtlcfpnegpihicaaGreatDoor
open Go.RowKit Go.Shelf
attribute [local go_sem] Oper.semAt_some
attribute [local go_sem] wide_fn wide_depth wide_round

/-! ## The document's own texts -/
end Go.Proofs.YtlcfpnegpihicaaGreatDoor
