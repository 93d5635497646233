import Derived.RangeFuncNested
import Derived.RangeFuncBox
import Derived.RangeFuncBound
import Derived.RangeFuncCalls
import Derived.RangeFuncLeaves
import Derived.Shelf.Abstract
import Derived.Shelf.RegionOpen
import Derived.WalkKit
import Derived.OwnWalkIn
import Derived.TacticsInMore
import Derived.LoopNIn
import Derived.LoopIn
import Derived.Lib.Hide
import Derived.Test.YtbmemkbfignlaaaGreatDoorPk5
import Derived.Test.YtbmemkbfignlaaaGreatDoorPk6
import Derived.ScopeJumps
import Derived.WalkMore
import Derived.Laws.EntriesVeiled
import Derived.BigQuiet
import Derived.Deep.QuietTactic
namespace Go.Proofs.YtbmemkbfignlaaaGreatDoor
open Go.RowKit Go.Shelf
attribute [local go_sem] Oper.semAt_some
attribute [local go_sem] wide_fn wide_depth wide_round

/-! ## The table of bases -/
def Tab (W : World) : Prop := W.cell? ⟨3, 0, none⟩ = some (.int .u64 10) ∧ W.cell? ⟨3, 1, none⟩ = some (.int .u64 16)
theorem Tab.lt {W : World} (h : Tab W) : 3 < W.heap.size := by
  rcases Nat.lt_or_ge 3 W.heap.size with h' | h'
  · exact h'
  · have := h.1
    simp [World.cell?, Array.getElem?_eq_none h'] at this
theorem Tab.below {W W' : World} (h : Tab W) (hb : Below W.heap.size W W') : Tab W' :=
  ⟨(hb.cell (p := ⟨3, 0, none⟩) h.lt).trans h.1, (hb.cell (p := ⟨3, 1, none⟩) h.lt).trans h.2⟩

theorem number_any (b : Int) (hb : Is64 b) (s : ByteArray) (hm : s.size ≤ 9223372036854775807) (w : World) :
    Calls Tryz.prog 200 #[.agg #[.string s, .int .u64 b]] w fun e w' => e = Two (numR b s.data.toList) ∧ Below w.heap.size w w' := by
  cases hs : ((s.size : Int) == 0) with
  | false => exact callsIn_wide.1 (number_in 3 (by omega) b hb s hs hm w)
  | true =>
    rw [beq_iff_eq] at hs
    have : s.data = #[] := Array.eq_empty_of_size_eq_zero (by have : s.size = s.data.size := rfl; omega)
    obtain ⟨d⟩ := s
    simp only at this
    subst this
    exact number_empty b w

def parseR (l : List UInt8) : Int × Int := if padB l = true then (0, 110) else numR 10 l
theorem is64_10 : Is64 10 := ⟨by omega, by omega⟩
theorem is64_16 : Is64 16 := ⟨by omega, by omega⟩
section
set_option maxHeartbeats 400000
theorem hexDigitsCall_any (s : ByteArray) (hm : s.size ≤ 9223372036854775807) (w : World) (hT : Tab w) :
    Calls Tryz.prog 194 #[.string s] w fun e w' => e = Two (numR 16 s.data.toList) ∧ Below w.heap.size w w' := by
  obtain ⟨t0, t1⟩ := hT
  go_enter Tryz.func194, Tryz.ntmps194
  go_wp2_with (go_at_call 200; refine (number_any _ is64_16 s hm _).mono ?_; rintro e w' ⟨rfl, hb⟩; simp only [Two])
  go_ret2
  exact ⟨two_of rfl, by assumption⟩
end

/-! ## The document's reading -/
theorem err_add {a b : Int} (h : ¬ (addR a b).2 = 0) : addR a b = (0, 111) := by
  unfold addR at *; split at h
  · exact absurd rfl h
  · rename_i h'; rw [if_neg h']
theorem err_mul {a b : Int} (h : ¬ (mulR a b).2 = 0) : mulR a b = (0, 111) := by
  unfold mulR at *; split at h
  · exact absurd rfl h
  · rename_i h'; rw [if_neg h']
theorem goesR_take (b : Int) (l : List UInt8) {k : Nat} (hk : k < l.length) : goesR b (l.take (k + 1)) = step b (goesR b (l.take k)) ((l[k]).toNat : Int) := by
  rw [List.take_succ_eq_append_getElem hk, goesR_snoc]
theorem goesR_stuck (b : Int) (l : List UInt8) (k : Nat) (h : ¬ (goesR b (l.take k)).2 = 0) : goesR b l = goesR b (l.take k) := by
  have key : ∀ (l' : List UInt8) (r : Int × Int), ¬ r.2 = 0 → l'.foldl (fun r c => step b r (c.toNat : Int)) r = r := by
    intro l'
    induction l' with
    | nil => intro r _; rfl
    | cons c l' ih => intro r hr; simp only [List.foldl_cons]; rw [step_stay hr]; exact ih r hr
  have e : goesR b l = (l.drop k).foldl (fun r c => step b r (c.toNat : Int)) (goesR b (l.take k)) := by
    unfold goesR
    rw [← List.foldl_append, List.take_append_drop]
  rw [e]
  exact key _ _ h
def ReadRel (b : Int) (l : List UInt8) (i n : Value) : Prop := ∃ k : Nat, k ≤ l.length ∧ i = .int .i64 k ∧ n = .int .u64 (goesR b (l.take k)).1 ∧ (goesR b (l.take k)).2 = 0
def ScanRel (b : Int) (l : List UInt8) (i : Value) : Prop := ∃ k : Nat, k ≤ l.length ∧ i = .int .i64 k ∧ ∀ c ∈ l.take k, isDig b (c.toNat : Int) = true

section
set_option maxHeartbeats 400000
end
end Go.Proofs.YtbmemkbfignlaaaGreatDoor
