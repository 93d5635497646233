import Derived.Test.YtbmemkbfignlaaaGreatDoorPk3
import Derived.Shelf.Bits.Mul64
import Derived.Test.YtbmemkbfignlaaaGreatDoorProg
import Derived.Test.YtbmemkbfignlaaaGreatDoorRows
import Derived.Lib.Hide
import Derived.WalkKit
import Derived.WalkSpells
import Derived.WalkLawsBesides
import Derived.RangeFuncNested
import Derived.RangeFuncBox
import Derived.RangeFuncBound
import Derived.RangeFuncCalls
import Derived.RangeFuncLeaves
import Derived.Shelf.Abstract
import Derived.Shelf.RegionOpen
import Derived.OwnWalkIn
import Derived.TacticsInMore
import Derived.LoopNIn
import Derived.LoopIn
import Derived.Test.YtbmemkbfignlaaaGreatDoorPk1
namespace Go.Proofs.YtbmemkbfignlaaaGreatDoor
open Go.RowKit
attribute [local go_sem] Oper.semAt_some

/-! ## The document's Parse: what it rests on -/
theorem Grew.refl (g : Nat) (w : World) : Grew g w w := ⟨rfl, rfl, rfl, Nat.le_refl _, fun _ _ _ => rfl⟩
theorem Grew.trans {g : Nat} {a b c : World} (h : Grew g a b) (k : Grew g b c) : Grew g a c := ⟨k.os.trans h.os, k.tape.trans h.tape, k.output.trans h.output, Nat.le_trans h.size k.size, fun i hi hg => (k.block i (Nat.lt_of_lt_of_le hi h.size) hg).trans (h.block i hi hg)⟩
theorem Grew.of_below {g : Nat} {w w' : World} (h : Below w.heap.size w w') : Grew g w w' := ⟨h.os, h.tape, h.output, h.size, fun k hk _ => h.block k hk⟩
theorem Grew.alloc {g : Nat} {w W : World} (h : Grew g w W) (o : Obj) : Grew g w (W.alloc o) := h.trans (Grew.of_below ((Below.refl W.heap.size W).alloc (Nat.le_refl _) o))
theorem Grew.grown {g : Nat} {w W W' : World} (h : Grew g w W) {ob : Option Nat} (hg : W.grownBy W' ob) (hv : ∀ k, ob = some k → w.heap.size ≤ k) : Grew g w W' :=
  ⟨hg.os.trans h.os, hg.tape.trans h.tape, hg.output.trans h.output, Nat.le_trans h.size hg.size, fun k hk hne => (hg.block k (Nat.lt_of_lt_of_le hk h.size) (fun e => by have := hv k e.symm; omega)).trans (h.block k hk hne)⟩
theorem Grew.setT {g : Nat} {w W : World} (h : Grew g w W) (i : Nat) (u : Value) : Grew g w (W.setCell ⟨g, i, none⟩ u) :=
  h.trans ⟨rfl, rfl, rfl, by simp [World.setCell], fun k _ hk => Below.heap_setCell W ⟨g, i, none⟩ u k hk⟩
theorem Grew.has {g k : Nat} {w W : World} {t : TypeId} {cs : Array Value} (h : Grew g w W) (hh : Has w k t cs) (hk : k ≠ g) : Has W k t cs := (h.block k hh.lt hk).trans hh
theorem Txs.grew {g : Nat} {w W : World} {A : Option Addr} {ls : List (List UInt8)} (h : Txs w A ls) (hb : Grew g w W) (hA : ∀ b o, A = some ⟨b, o, none⟩ → b ≠ g) : Txs W A ls := fun h0 => by
  obtain ⟨b, o, rfl, hlt, hc⟩ := h h0
  exact ⟨b, o, rfl, Nat.lt_of_lt_of_le hlt hb.size, fun i x hx => (World.cell?_of_block (hb.block b hlt (hA b o rfl))).trans (hc i x hx)⟩
theorem Strs.txs {W : World} {n0 : Nat} {v : Value} {l : List (List UInt8)} (h : Strs W n0 v l) : ∃ A c, v = .slice A l.length c ∧ Txs W A l ∧ ∀ b o, A = some ⟨b, o, none⟩ → n0 ≤ b := by
  obtain ⟨A, g, c, cur, rfl, h1, h2⟩ := h.shape
  rcases Nat.eq_zero_or_pos l.length with h0 | h0
  · rcases h.2 with ⟨hv, _⟩ | ⟨g', c', _, hv, hb, _⟩
    · injection hv with hv _ _
      subst hv
      exact ⟨none, c, rfl, fun h => by omega, fun b o e => by cases e⟩
    · injection hv with hv _ _
      subst hv
      exact ⟨_, c, rfl, fun h => by omega, fun b o e => by injection e with e; injection e with e; omega⟩
  · obtain ⟨rfl, hb, hh⟩ := h1 h0
    refine ⟨_, c, rfl, fun _ => ⟨g, 0, rfl, hh.lt, fun i x hx => ?_⟩, fun b o e => by injection e with e; injection e with e; omega⟩
    rw [Nat.zero_add, hh.cell]
    exact h2 i x hx
theorem Strs.kept {W W' : World} {n0 : Nat} {v : Value} {l : List (List UInt8)} (h : Strs W n0 v l) (k : ∀ g, v.ownBlock = some g → W'.heap[g]? = W.heap[g]?) : Strs W' n0 v l := by
  refine ⟨h.1, ?_⟩
  rcases h.2 with h | ⟨g, cap, cur, rfl, hb, hg, r⟩
  · exact .inl h
  · exact .inr ⟨g, cap, cur, rfl, hb, (k g rfl).trans hg, r⟩
theorem Strs.grew {g : Nat} {W W' : World} {n0 : Nat} {v : Value} {l : List (List UInt8)} (h : Strs W n0 v l) (hb : Grew g W W') (hg : g < n0) : Strs W' n0 v l :=
  h.kept fun k e => by
    obtain ⟨h1, _, h2⟩ := h.own k e
    exact hb.block k h2.lt (by omega)
/-! ### A list of pairs of one's own -/
def prsC (l : List PairL) : List Value := l.flatMap fun q => [.string ⟨q.1.toArray⟩, .string ⟨q.2.toArray⟩]
theorem prsC_append (l m : List PairL) : prsC (l ++ m) = prsC l ++ prsC m := by simp [prsC]
theorem prsC_one (l : List PairL) : ∀ u ∈ prsC l, u.oneCell' = true := by
  intro u hu
  obtain ⟨x, _, hu⟩ := List.mem_flatMap.1 hu
  simp only [List.mem_cons, List.not_mem_nil, or_false] at hu
  rcases hu with rfl | rfl <;> rfl
theorem prsC_get : ∀ (l : List PairL) (i : Nat) (q : PairL), l[i]? = some q → (prsC l)[i * 2]? = some (.string ⟨q.1.toArray⟩) ∧ (prsC l)[i * 2 + 1]? = some (.string ⟨q.2.toArray⟩)
  | [], i, x, h => by simp at h
  | y :: l, 0, x, h => by
    obtain rfl : y = x := by simpa using h
    exact ⟨rfl, rfl⟩
  | y :: l, i + 1, x, h => by
    have := prsC_get l i x (by simpa using h)
    have e : ∀ n, (prsC (y :: l))[n + 1 + 1]? = (prsC l)[n]? := fun n => rfl
    rw [show (i + 1) * 2 = i * 2 + 1 + 1 by omega, show i * 2 + 1 + 1 + 1 = (i * 2 + 1) + 1 + 1 by omega, e, e]
    exact this
def PrsO (W : World) (n0 : Nat) (v : Value) (l : List PairL) : Prop := W.ownsRow n0 88 2 v l.length (prsC l)
theorem prsO_nil (W : World) (n0 : Nat) : PrsO W n0 (.slice none 0 0) [] := ⟨rfl, .inl ⟨rfl, rfl⟩⟩
section
variable {W W' : World} {n0 : Nat} {v : Value} {l : List PairL}
theorem PrsO.prs (h : PrsO W n0 v l) : ∃ A c, v = .slice A l.length c ∧ Prs W A l := by
  have hh := h
  rcases h.2 with ⟨rfl, h0⟩ | ⟨g, cap, cur, rfl, hb, hg, _⟩
  · exact ⟨none, 0, by rw [h0], fun hl => by omega⟩
  · refine ⟨_, cap, rfl, fun _ => ⟨g, 0, rfl, (Array.getElem?_eq_some_iff.1 hg).1, fun i x hx => ?_⟩⟩
    have c := fun j u hu => World.ownsRow.cells (g := g) hh rfl j u hu
    simp only [add_zero_] at c
    obtain ⟨h1, h2⟩ := prsC_get l i x hx
    exact ⟨c _ _ h1, by have := c _ _ h2; rwa [← Nat.add_assoc] at this⟩
theorem PrsO.own (h : PrsO W n0 v l) : ∀ g, v.ownBlock = some g → n0 ≤ g ∧ ∃ cs, Has W g 88 cs := by
  intro g hg
  rcases h.2 with ⟨rfl, _⟩ | ⟨g', cap, cur, rfl, hb, hh, r⟩
  · cases hg
  · obtain rfl : g' = g := by simpa [Value.ownBlock] using hg
    exact ⟨hb, cur, hh⟩
theorem PrsO.kept (h : PrsO W n0 v l) (k : ∀ g, v.ownBlock = some g → W'.heap[g]? = W.heap[g]?) : PrsO W' n0 v l := by
  refine ⟨h.1, ?_⟩
  rcases h.2 with h | ⟨g, cap, cur, rfl, hb, hg, r⟩
  · exact .inl h
  · exact .inr ⟨g, cap, cur, rfl, hb, (k g rfl).trans hg, r⟩
theorem PrsO.below (h : PrsO W n0 v l) (hb : Below W.heap.size W W') : PrsO W' n0 v l := h.kept fun g hg => hb.block g (h.own g hg).2.choose_spec.lt
theorem PrsO.grew {g : Nat} (h : PrsO W n0 v l) (hb : Grew g W W') (hg : g < n0) : PrsO W' n0 v l :=
  h.kept fun k e => by
    obtain ⟨h1, _, h2⟩ := h.own k e
    exact hb.block k h2.lt (by omega)
end
theorem infoPair : (Tryz.prog.info? 88).map (fun i => (i.zero, i.size, i.bytes)) = some (some (.agg #[.string ⟨#[]⟩, .string ⟨#[]⟩]), 2, 32) := by kernel_rfl
theorem wpList_append_pair {w : World} {ops : Array Oper} {rest : List Oper} {o : Oper} {a : Act} {Q : Exit → Act → World → Prop} {n0 : Nat} {v : Value} {l : List PairL} (hgd : o.guard = none) (s x : Operand) (ho : o.op = .call { callee := .builtin .append, args := #[s, x], argTypes := #[30, 30] }) (hsv : a.eval s = v) (hv : PrsO w n0 v l)
    (k : Nat) (q : PairL) (hxv : a.eval x = .slice (some ⟨k, 0, none⟩) 1 1) (hx : Has w k 88 #[.string ⟨q.1.toArray⟩, .string ⟨q.2.toArray⟩]) (hs : l.length + 1 ≤ 1000000) (hn : n0 ≤ w.heap.size)
    (h : ∀ v' w', PrsO w' n0 v' (l ++ [q]) → w.grownBy w' v.ownBlock → wpList Tryz.prog ops Q rest (a.put o.dst v') w') : wpList Tryz.prog ops Q (o :: rest) a w := by
  obtain ⟨i, hi, hz, hz1, hz2⟩ := info_parts infoPair
  refine wpList_append_own_at w hgd s x 30 ho n0 88 i _ 2 32 Tryz.underlying30 hi hz hz1 hz2 rfl (by decide) v l.length (prsC l) hsv hv ⟨k, 0, none⟩ 1 1 (prsC [q]) hxv rfl (fun j u hu => ?_) (prsC_one _) (by simp only [maxLen]; omega) (by omega) hn (fun v' w' h1 h2 _ _ => h v' w' ?_ h2)
  · rw [add_zero_, Nat.zero_add, hx.cell]
    simpa [prsC] using hu
  · unfold PrsO
    rw [List.length_append, List.length_singleton, prsC_append]
    exact h1
/-! ### The mathematics, step by step -/
theorem allL_step {α β : Type} {f : α → Option β} {done : List β} {x : α} {r : List α} {y : β} (h : f x = some y) : (allL f (x :: r)).map (done ++ ·) = (allL f r).map ((done ++ [y]) ++ ·) := by
  rw [show allL f (x :: r) = match f x, allL f r with | some y, some l => some (y :: l) | _, _ => none from rfl, h]
  cases allL f r <;> simp
theorem allL_stop {α β : Type} {f : α → Option β} {done : List β} {x : α} {r : List α} (h : f x = none) : (allL f (x :: r)).map (done ++ ·) = none := by
  rw [show allL f (x :: r) = match f x, allL f r with | some y, some l => some (y :: l) | _, _ => none from rfl, h]
  rfl
theorem allL_end {α β : Type} {f : α → Option β} (done : List β) : (allL f ([] : List α)).map (done ++ ·) = some done := by simp [allL]
theorem allL_start {α β : Type} (f : α → Option β) (l : List α) : allL f l = (allL f l).map (([] : List β) ++ ·) := by cases allL f l <;> rfl
/-- What is not empty, of pairs' texts. -/
def qsL (l : List (List UInt8)) : List (List UInt8) := l.filter fun q => decide (q ≠ [])
theorem qsL_no {x : List UInt8} {r : List (List UInt8)} (h : x = []) : qsL (x :: r) = qsL r := by unfold qsL; simp [h]
theorem qsL_yes {x : List UInt8} {r : List (List UInt8)} (h : x ≠ []) : qsL (x :: r) = x :: qsL r := by unfold qsL; simp [h]
def tgV0 : Value := .tuple #[.agg #[.slice none 0 0, .slice none 0 0], .int .i64 210]
def ParseR (o : Option TgL) (w : World) (e : Ending) (w' : World) : Prop := match o with
  | none => e = .returned tgV0 ∧ Below w.heap.size w w'
  | some t => (∃ v, e = .returned (.tuple #[v, .int .i64 0]) ∧ TgV w' v t) ∧ Below w.heap.size w w'
end Go.Proofs.YtbmemkbfignlaaaGreatDoor

/- The contracts of the library that these proofs lean on, laid at this program by the guide's own command, in plain words. -/
namespace Go.Proofs
open Go.Shelf
def Tryz.lays264_ren : Go.Shelf.Ren := ⟨fun | 264 => 226 | n => n, fun | 53 => 123 | 46 => 164 | n => n, fun | n => n⟩
theorem Tryz.lays264 : Go.Proofs.Lays.n264 Tryz.prog Tryz.lays264_ren := {
  mixed := by kernel_rfl
  f264 := Tryz.func226.trans (congrArg some (by kernel_rfl))
  t46 := Tryz.underlying164
  a46 := Tryz.isAgg164
  z46 := Tryz.sizeOf164
  v46 := Tryz.zeroValue164
  t53 := Tryz.underlying123
  a53 := Tryz.isAgg123
  z53 := Tryz.sizeOf123
  v53 := Tryz.zeroValue123 }
open Go.RowKit Go.Lib in
theorem Tryz.bits_Mul64 (x y : Nat) (hx : x < 18446744073709551616) (hy : y < 18446744073709551616) (w : World) :
    Calls Tryz.prog 226 #[.int .u64 x, .int .u64 y] w fun e w' => e = .returned (.tuple #[.int .u64 ((x * y / 18446744073709551616 : Nat) : Int), .int .u64 ((x * y % 18446744073709551616 : Nat) : Int)]) ∧ w' = w := Any.bits_Mul64 Tryz.lays264 x y hx hy w
end Go.Proofs

namespace Go.Proofs.YtbmemkbfignlaaaGreatDoor
open Go.RowKit

/-! What the calls of layer 1 answer: the value, the error's number. -/
def addR (a b : Int) : Int × Int := if a + b < 18446744073709551616 then (a + b, 0) else (0, 111)
def subR (a b : Int) : Int × Int := if b ≤ a then (a - b, 0) else (0, 112)
def mulR (a b : Int) : Int × Int := if a * b < 18446744073709551616 then (a * b, 0) else (0, 111)
def nextR (a b : Int) : Int × Int := if a < b then (a + 1, 0) else (0, 111)
def clampR (n l m : Int) : Int × Int := if l ≤ m then (min (max n l) m, 0) else (0, 2)

def Is64 (a : Int) : Prop := 0 ≤ a ∧ a < 18446744073709551616

theorem addR_64 {a b : Int} (ha : Is64 a) (hb : Is64 b) : Is64 (addR a b).1 := by
  unfold addR Is64 at *; split <;> constructor <;> simp <;> omega

def Two (r : Int × Int) : Ending := .returned (.tuple #[.int .u64 r.1, .int .i64 r.2])
theorem two_of {r : Int × Int} {x y : Int} (h : r = (x, y)) : Ending.returned (.tuple #[.int .u64 x, .int .i64 y]) = Two r := by rw [h]; rfl

section
variable (a b c : Int) (w : World)
set_option maxHeartbeats 400000

theorem run_add64_lo (ha : Is64 a) (hb : Is64 b) (h : a + b < 18446744073709551616) :
    (callFunc 227 #[.int .u64 a, .int .u64 b, .int .u64 0]).run Tryz.prog w = .ok (.value (.tuple #[.int .u64 (a + b), .int .u64 0])) w := by
  obtain ⟨ha0, ha⟩ := ha
  obtain ⟨hb0, hb⟩ := hb
  rw [run_callFunc_extern Tryz.func227 (by kernel_rfl) (by kernel_rfl) (by kernel_rfl) (e := add64Entry) (by kernel_rfl), run_add64 a b 0 ha0 hb0 (by omega) (by omega)]
  simp only [Result.andThen]
  rw [show (a + b + 0) % 18446744073709551616 = a + b from by omega, show (a + b + 0) / 18446744073709551616 = 0 from by omega]
theorem run_add64_hi (ha : Is64 a) (hb : Is64 b) (h : 18446744073709551616 ≤ a + b) :
    (callFunc 227 #[.int .u64 a, .int .u64 b, .int .u64 0]).run Tryz.prog w = .ok (.value (.tuple #[.int .u64 (a + b - 18446744073709551616), .int .u64 1])) w := by
  obtain ⟨ha0, ha⟩ := ha
  obtain ⟨hb0, hb⟩ := hb
  rw [run_callFunc_extern Tryz.func227 (by kernel_rfl) (by kernel_rfl) (by kernel_rfl) (e := add64Entry) (by kernel_rfl), run_add64 a b 0 ha0 hb0 (by omega) (by omega)]
  simp only [Result.andThen]
  rw [show (a + b + 0) % 18446744073709551616 = a + b - 18446744073709551616 from by omega, show (a + b + 0) / 18446744073709551616 = 1 from by omega]
theorem add_any (ha : Is64 a) (hb : Is64 b) : Calls Tryz.prog 221 #[.int .u64 a, .int .u64 b] w fun e w' => e = Two (addR a b) ∧ w = w' := by
  by_cases h : a + b < 18446744073709551616
  · have hadd := run_add64_lo a b w ha hb h
    go_enter Tryz.func221, Tryz.ntmps221
    go_wp2
    go_ret2
    exact ⟨two_of (if_pos h), rfl⟩
  · have hadd := run_add64_hi a b w ha hb (by omega)
    have h' := Lib.hid h; clear h
    go_enter Tryz.func221, Tryz.ntmps221
    go_wp2
    go_ret2
    exact ⟨two_of (if_neg (by have := h'.out; omega)), rfl⟩
theorem mulR_lo (h : a * b < 18446744073709551616) : mulR a b = (a * b, 0) := if_pos h
theorem mulR_hi (h : 18446744073709551616 ≤ a * b) : mulR a b = (0, 111) := if_neg (by omega)
theorem quot_lt (ha : 0 < a) (h : 18446744073709551615 / a < b) : 18446744073709551616 ≤ a * b := by
  have := (Int.ediv_lt_iff_lt_mul ha).1 h
  rw [Int.mul_comm] at this
  omega
theorem quot_le (ha : 0 < a) (h : b ≤ 18446744073709551615 / a) : a * b < 18446744073709551616 := by
  have := (Int.le_ediv_iff_mul_le ha).1 h
  rw [Int.mul_comm] at this
  omega
theorem wrap_mul (h0 : 0 ≤ a * b) (h : a * b < 18446744073709551616) : IntKind.u64.wrap (a * b) = a * b := by rw [IntKind.wrap_u64]; omega
/-- The product's upper half is no nought: whatever the halves are. -/
def Upper (e : Ending) : Prop := ∃ h l : Int, e = .returned (.tuple #[.int .u64 h, .int .u64 l]) ∧ (h != 0) = true
theorem mul64_lo (ha : Is64 a) (hb : Is64 b) (h : a * b < 18446744073709551616) : Calls Tryz.prog 226 #[.int .u64 a, .int .u64 b] w fun e w' => e = .returned (.tuple #[.int .u64 0, .int .u64 (a * b)]) ∧ w = w' := by
  obtain ⟨ha0, ha⟩ := ha
  obtain ⟨hb0, hb⟩ := hb
  obtain ⟨x, rfl⟩ := Int.eq_ofNat_of_zero_le ha0
  obtain ⟨y, rfl⟩ := Int.eq_ofNat_of_zero_le hb0
  refine (Tryz.bits_Mul64 x y (by omega) (by omega) w).mono fun e w' ⟨he, hw⟩ => ⟨?_, hw.symm⟩
  have h' : x * y < 18446744073709551616 := by rw [← Int.natCast_mul] at h; omega
  rw [he, Nat.div_eq_of_lt h', Nat.mod_eq_of_lt h', Int.natCast_mul]
  rfl
theorem mul64_hi (ha : Is64 a) (hb : Is64 b) (h : 18446744073709551616 ≤ a * b) : Calls Tryz.prog 226 #[.int .u64 a, .int .u64 b] w fun e w' => Upper e ∧ w = w' := by
  obtain ⟨ha0, ha⟩ := ha
  obtain ⟨hb0, hb⟩ := hb
  obtain ⟨x, rfl⟩ := Int.eq_ofNat_of_zero_le ha0
  obtain ⟨y, rfl⟩ := Int.eq_ofNat_of_zero_le hb0
  refine (Tryz.bits_Mul64 x y (by omega) (by omega) w).mono fun e w' ⟨he, hw⟩ => ⟨⟨_, _, he, ?_⟩, hw.symm⟩
  have h' : 18446744073709551616 ≤ x * y := by rw [← Int.natCast_mul] at h; omega
  have : 0 < x * y / 18446744073709551616 := Nat.div_pos h' (by omega)
  rw [bne_iff_ne]; omega
theorem mul_any (ha : Is64 a) (hb : Is64 b) : Calls Tryz.prog 220 #[.int .u64 a, .int .u64 b] w fun e w' => e = Two (mulR a b) ∧ w = w' := by
  by_cases h : a * b < 18446744073709551616
  · have hc := Lib.hid (mul64_lo a b w ha hb h)
    have h' := Lib.hid h; clear h ha hb
    go_enter Tryz.func220, Tryz.ntmps220
    go_wp2_with (go_at_call 226; refine hc.out.mono ?_; rintro e w' ⟨rfl, rfl⟩)
    go_ret2
    exact ⟨two_of (if_pos h'.out), rfl⟩
  · have hc := Lib.hid (mul64_hi a b w ha hb (by omega))
    have h' := Lib.hid h; clear h ha hb
    go_enter Tryz.func220, Tryz.ntmps220
    go_wp2_with (go_at_call 226; refine hc.out.mono ?_; rintro e w' ⟨⟨x, y, rfl, hne⟩, rfl⟩)
    go_ret2
    exact ⟨two_of (if_neg (by have := h'.out; omega)), rfl⟩
end
end Go.Proofs.YtbmemkbfignlaaaGreatDoor

namespace Go.Proofs.YtbmemkbfignlaaaGreatDoor
open Go.RowKit Go.Shelf
attribute [local go_sem] Oper.semAt_some
theorem wide_fn (f : FuncId) : Fence.wide.fn f = True := rfl
theorem wide_depth : Fence.wide.depth.isSome = false := rfl
theorem wide_round (l : Nat) (f : FuncId) : (Fence.wide.inRound l).fn f = True := rfl
attribute [local go_sem] wide_fn wide_depth wide_round

/-! ## Digits -/
def upto {α : Type} (f : Nat → α) (k : Nat) : List α := (List.range k).map f
theorem upto_succ {α : Type} (f : Nat → α) (k : Nat) : upto f (k + 1) = upto f k ++ [f k] := by simp [upto, List.range_succ]
theorem upto_length {α : Type} (f : Nat → α) (k : Nat) : (upto f k).length = k := by simp [upto]

/-- The sign of a digit. -/
def sgn (d : Nat) : UInt8 := if d < 10 then UInt8.ofNat (48 + d) else UInt8.ofNat (87 + d)
def digAt (b n k : Nat) : Nat := n / b ^ k % b
/-- What Each's like tells at a place: what the digit is worth. -/
def tell (b n k : Nat) : Nat × Fin 16 := (k, ⟨digAt b n k % 16, Nat.mod_lt _ (by omega)⟩)
def IsLen (b n K : Nat) : Prop := 1 ≤ K ∧ n / b ^ K = 0 ∧ (K = 1 ∨ n / b ^ (K - 1) ≠ 0)

def encDig (x : Nat × Fin 16) : Array Value := #[.int .i64 (x.1 : Int), .int .u8 (x.2.val : Int)]

theorem signs_get (d : Nat) (h : d < (⟨#[48, 49, 50, 51, 52, 53, 54, 55, 56, 57, 97, 98, 99, 100, 101, 102]⟩ : ByteArray).size) :
    (⟨#[48, 49, 50, 51, 52, 53, 54, 55, 56, 57, 97, 98, 99, 100, 101, 102]⟩ : ByteArray)[d]'h = sgn d := by
  have h' : d < 16 := h
  have : ∀ d : Fin 16, (⟨#[48, 49, 50, 51, 52, 53, 54, 55, 56, 57, 97, 98, 99, 100, 101, 102]⟩ : ByteArray)[d.1]'d.2 = sgn d.1 := by decide
  exact this ⟨d, h'⟩
theorem isLen_small {b x k : Nat} (hb : b = 10 ∨ b = 16) (hx : x < 18446744073709551616) (h : x / b ^ k ≠ 0) : k < 20 := by
  rcases Nat.lt_or_ge k 20 with h' | h'
  · exact h'
  · exfalso
    apply h
    apply Nat.div_eq_of_lt
    have h10 : 10 ^ 20 ≤ b ^ k := by
      rcases hb with rfl | rfl
      · exact Nat.pow_le_pow_right (by omega) h'
      · exact Nat.le_trans (Nat.pow_le_pow_left (by omega) 20) (Nat.pow_le_pow_right (by omega) h')
    omega

end Go.Proofs.YtbmemkbfignlaaaGreatDoor
