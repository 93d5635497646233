import Derived.RangeFuncNested
import Derived.RangeFuncBox
import Derived.RangeFuncBound
import Derived.RangeFuncCalls
import Derived.RangeFuncLeaves
import Derived.Shelf.Abstract
import Derived.Shelf.RegionOpen
import Derived.WalkKit
import Derived.OwnWalkIn
import Derived.TacticsInMore
import Derived.LoopNIn
import Derived.LoopIn
import Derived.Lib.Hide
import Derived.Test.YtbmemkbfignlaaaGreatDoorPk5
import Derived.ScopeJumps
import Derived.WalkMore
import Derived.Laws.EntriesVeiled
import Derived.BigQuiet
import Derived.Deep.QuietTactic
namespace Go.Proofs.YtbmemkbfignlaaaGreatDoor
open Go.RowKit Go.Shelf
attribute [local go_sem] Oper.semAt_some
attribute [local go_sem] wide_fn wide_depth wide_round

/-! ## A jump on to a label that stands further on -/
theorem wp_scope_on {P : Program} {a : Act} {w : World} {Q : Exit → Act → World → Prop} {c rest : Code} (l : Nat) (hf : findLabel c l = some rest)
    (first : c.wp P (Exit.jump l (fun a w => rest.wp P (Exit.noGoto Q) a w) Q) a w) : (Code.scope c).wp P Q a w := by
  refine wp_scope_jumps l (fun a w => rest.wp P (Exit.noGoto Q) a w) (fun _ _ => 0) hf first (fun a w h => wp_mono h ?_)
  intro e a w hq
  cases e <;> first | exact hq.elim | exact hq

/-- What Each's like tells of a text. -/
def spell (s : ByteArray) (k : Nat) : Nat × UInt8 := (k, s.data.toList[k]?.getD 0)

set_option maxRecDepth 100000 in
set_option maxHeartbeats 1000000 in
theorem all1_in (n : Nat) (hn : 1 ≤ n) (s : ByteArray) (hm : s.size ≤ 9223372036854775807) (l B : Nat) (J Jx : List (Nat × UInt8) → World → Prop)
    (hY : ∀ pre y W, J pre W → pre.length < s.size → YieldAt Fence.wide (n - 1) Tryz.prog l (encPair y) W fun e W' =>
      (e = .returned (.bool true) ∧ J (pre ++ [y]) W' ∧ Kept (· = B) W W') ∨ (e = .returned (.bool false) ∧ Jx (pre ++ [y]) W'))
    (W : World) (h1 : Has W B 226 #[.string s]) (h0 : J [] W) :
    CallsIn Fence.wide n Tryz.prog 219 #[.func (.yield l) #[] #[], .pointer (some ⟨B, 0, none⟩)] W fun e W' => (∃ v, e = .returned v) ∧
      ((∃ ys, ys = upto (spell s) s.size ∧ J ys W') ∨ (∃ pre, (∃ k, k < s.size ∧ pre = upto (spell s) (k + 1)) ∧ Jx pre W')) := by
  refine callsIn_of_wp Tryz.func219 rfl trivial ?_ rfl
  simp only [Tryz.ntmps219, List.size_toArray, List.length_cons, List.length_nil, Nat.reduceAdd, Nat.reduceSub, Array.replicate_succ, Array.replicate_zero, List.push_toArray, List.append_toArray, List.nil_append, List.cons_append]
  have c1 := h1.cell 0
  gi_wp2
  gi_loopw [6] (fun i wr => ∃ k : Nat, k ≤ s.size ∧ i = .int .i64 k ∧ J (upto (spell s) k) wr ∧ Has wr B 226 #[.string s])
    (fun i _ => s.size - (intOf i).toNat)
  case atStart => exact ⟨0, Nat.zero_le _, rfl, h0, h1⟩
  case round =>
    obtain ⟨k, hk, rfl, hJs, hB⟩ := hrel
    have c2 := hB.cell 0
    by_cases hlt : k < s.size
    · obtain ⟨fn, tmps, assign, body, hy, hR⟩ := hY _ (spell s k) wr hJs (by rw [upto_length]; exact hlt)
      have hs : s.data.toList[k]?.getD 0 = s[k] := by
        rw [Array.getElem?_toList, Array.getElem?_eq_getElem (show k < s.data.size from hlt)]; rfl
      have hy' : (Instr.yield l #[.int .i64 k, .int .u8 (s[k].toNat : Int)]).run Tryz.prog wr = .ok (Next.round l fn tmps assign body) wr := by rw [← hs]; exact hy
      have hR' := Lib.hid hR
      clear hy hR hY hs
      gi_wp2
      refine hR'.out.mono ?_
      rintro e W3 (⟨rfl, hJ3, hk3⟩ | ⟨rfl, hJx3⟩)
      · have hB3 := hk3.has rfl hB
        have c3 := hB3.cell 0
        have hJ4 := Lib.hid hJ3
        gi_wp2
        exact ⟨⟨k + 1, by omega, by go_num, by rw [upto_succ]; exact hJ4.out, hB3⟩, by simp [intOf]; omega⟩
      · gi_wp2
        refine bodyPost_ret (results_none rfl _ _ _) rfl ?_
        exact ⟨⟨_, rfl⟩, .inr ⟨_, ⟨k, hlt, (upto_succ _ _).symm⟩, hJx3⟩⟩
    · obtain rfl : k = s.size := by omega
      gi_wp2
      go_end0
      exact ⟨⟨_, rfl⟩, .inl ⟨_, rfl, hJs⟩⟩
theorem all_stops (n : Nat) (hn : 1 ≤ n) (s : ByteArray) (hm : s.size ≤ 9223372036854775807) (B : Nat) (w : World) (h1 : Has w B 226 #[.string s]) :
    SeqStopsK Fence.wide n Tryz.prog 219 #[.pointer (some ⟨B, 0, none⟩)] encPair (Kept (· = B)) (fun ys => ys = upto (spell s) s.size)
      (fun pre => ∃ k, k < s.size ∧ pre = upto (spell s) (k + 1)) s.size w := fun l J Jx W hW _ _ hY h0 =>
  all1_in n hn s hm l B J Jx hY W (h1.below hW h1.lt) h0

/-! ## The number of digits -/
def step (b : Int) (r : Int × Int) (c : Int) : Int × Int := if r.2 = 0 then moreR b r.1 c else r
def goesR (b : Int) (l : List UInt8) : Int × Int := l.foldl (fun r c => step b r (c.toNat : Int)) (0, 0)
def numR (b : Int) (l : List UInt8) : Int × Int := if l ≠ [] ∧ ∀ c ∈ l, isDig b (c.toNat : Int) = true then goesR b l else (0, 110)

set_option maxRecDepth 100000 in
set_option maxHeartbeats 1000000 in
theorem number_empty (b : Int) (w : World) :
    Calls Tryz.prog 200 #[.agg #[.string ⟨#[]⟩, .int .u64 b]] w fun e w' => e = Two (numR b []) ∧ Below w.heap.size w w' := by
  go_enter Tryz.func200, Tryz.ntmps200
  go_wp2
  refine wp_scope_on 0 rfl ?_
  go_wp2_with (first | (go_at_call 209; refine (digitTo_any _ _).mono ?_; rintro e w' ⟨rfl, rfl⟩) | (go_at_call 210; refine (empty_yes _).mono ?_; rintro e w' ⟨rfl, rfl⟩))
  go_step3
  refine ⟨rfl, ?_⟩
  go_wp2
  try rw [Exit.noGoto_ret]
  go_ret2
  exact ⟨two_of rfl, ((((((Below.refl _ _).alloc (Nat.le_refl _) _).alloc (by simp) _).alloc (by simp; omega) _).alloc (by simp; omega) _).alloc (by simp; omega) _).alloc (by simp; omega) _⟩

theorem addR_bnd {a b : Int} (ha : Is64 a) (hb : Is64 b) : Is64 (addR a b).1 := addR_64 ha hb
theorem moreR_64 {b n c : Int} (hb : Is64 b) (hn : Is64 n) : Is64 (moreR b n c).1 := by
  unfold moreR
  split
  · exact addR_64 (mulR_64 hn hb) (worth_64 c)
  · exact ⟨by simp, by simp⟩
theorem step_64 {b c : Int} {r : Int × Int} (hb : Is64 b) (hr : Is64 r.1) : Is64 (step b r c).1 := by
  unfold step
  split
  · exact moreR_64 hb hr
  · exact hr
theorem goesR_snoc (b : Int) (l : List UInt8) (c : UInt8) : goesR b (l ++ [c]) = step b (goesR b l) (c.toNat : Int) := by simp [goesR]
theorem goesR_64 {b : Int} (hb : Is64 b) (l : List UInt8) : Is64 (goesR b l).1 := by
  have : ∀ (l : List UInt8) (r : Int × Int), Is64 r.1 → Is64 (l.foldl (fun r c => step b r (c.toNat : Int)) r).1 := by
    intro l
    induction l with
    | nil => intro r h; exact h
    | cons c l ih => intro r h; exact ih _ (step_64 hb h)
  exact this l _ ⟨by simp, by simp⟩
def goes (b : Int) (pre : List (Nat × UInt8)) : Int × Int := goesR b (pre.map Prod.snd)
theorem goes_snoc (b : Int) (pre : List (Nat × UInt8)) (y : Nat × UInt8) : goes b (pre ++ [y]) = step b (goes b pre) (y.2.toNat : Int) := by simp [goes, goesR_snoc]
theorem step_go {b c : Int} {r : Int × Int} (h : r.2 = 0) : step b r c = moreR b r.1 c := if_pos h
theorem step_stay {b c : Int} {r : Int × Int} (h : ¬ r.2 = 0) : step b r c = r := if_neg h
theorem byte_lt (c : UInt8) : (c.toNat : Int) < 256 := by have := c.toNat_lt; omega
/-- What the loop over a text's bytes keeps, while all are digits. -/
def NumI (b : Int) (s : ByteArray) (w : World) (pre : List (Nat × UInt8)) (W : World) : Prop :=
  (∀ y ∈ pre, isDig b (y.2.toNat : Int) = true) ∧ Has W w.heap.size 229 #[.string s, .int .u64 b] ∧ Has W (w.heap.size + 1) 123 #[.int .u64 (goes b pre).1] ∧
    Has W (w.heap.size + 1 + 1) 42 #[.int .i64 (goes b pre).2] ∧ Has W (w.heap.size + 1 + 1 + 1) 123 #[.int .u64 b] ∧
    Has W (w.heap.size + 1 + 1 + 1 + 1) 101 #[.func (.func 217) #[] #[.pointer (some ⟨w.heap.size + 1 + 1 + 1, 0, none⟩)]] ∧
    Has W (w.heap.size + 1 + 1 + 1 + 1 + 1) 4 #[.bool true] ∧ Has W (w.heap.size + 1 + 1 + 1 + 1 + 1 + 1) 226 #[.string s] ∧ Below w.heap.size w W
/-- .. and where one is none. -/
def NumX (b : Int) (w : World) (c : Code) (pre : List (Nat × UInt8)) (W : World) : Prop :=
  c = .exit 0 ∧ (∃ y ∈ pre, isDig b (y.2.toNat : Int) = false) ∧ Has W (w.heap.size + 1 + 1 + 1 + 1 + 1) 4 #[.bool false] ∧ Below w.heap.size w W
theorem numI_from (b : Int) (s : ByteArray) (w : World) (B : Nat) (hB : w.heap.size + 1 + 1 + 1 + 1 + 1 + 1 < B) : OwnFrom B (NumI b s w) := by
  refine OwnFrom.and (ownFrom_pure _ _) (OwnFrom.and (has_from (by omega) _ _) (OwnFrom.and (has_from (by omega) _ (fun pre => #[.int .u64 (goes b pre).1])) (OwnFrom.and (has_from (by omega) _ (fun pre => #[.int .i64 (goes b pre).2])) (OwnFrom.and (has_from (by omega) _ _) (OwnFrom.and (has_from (by omega) _ _) (OwnFrom.and (has_from (by omega) _ _) (OwnFrom.and (has_from (by omega) _ _) (ownFrom_below (Nat.le_refl _) (by omega)))))))))
theorem numX_from (b : Int) (w : World) (B : Nat) (hB : w.heap.size + 1 + 1 + 1 + 1 + 1 < B) (c : Code) : OwnFrom B (NumX b w c) := by
  refine OwnFrom.and (ownFrom_pure _ _) (OwnFrom.and (ownFrom_pure _ _) (OwnFrom.and (has_from (by omega) _ _) (ownFrom_below (Nat.le_refl _) (by omega))))

theorem spell_all (s : ByteArray) : (upto (spell s) s.size).map Prod.snd = s.data.toList := by
  apply List.ext_getElem
  · simp only [List.length_map, upto_length, Array.length_toList]; rfl
  · intro i h1 h2
    simp [upto, spell]
    rw [Array.getElem?_eq_getElem (by simpa using h2)]; rfl
theorem numR_all (b : Int) (s : ByteArray) (hs : ((s.size : Int) == 0) = false) (h : ∀ y ∈ upto (spell s) s.size, isDig b (y.2.toNat : Int) = true) : numR b s.data.toList = ((goes b (upto (spell s) s.size)).1, (goes b (upto (spell s) s.size)).2) := by
  have e : goes b (upto (spell s) s.size) = goesR b s.data.toList := by unfold goes; rw [spell_all]
  rw [e]
  have h' : ∀ c ∈ s.data.toList, isDig b (c.toNat : Int) = true := by
    intro c hc
    rw [← spell_all] at hc
    obtain ⟨y, hy, rfl⟩ := List.mem_map.1 hc
    exact h y hy
  have h0 : s.data.toList ≠ [] := by
    intro e
    rw [beq_eq_false_iff_ne] at hs
    apply hs
    have : s.size = 0 := by
      show s.data.size = 0
      rw [← Array.length_toList, e]; rfl
    omega
  exact if_pos ⟨h0, h'⟩
theorem numR_one (b : Int) (s : ByteArray) {k : Nat} (hk : k < s.size) (h : ∃ y ∈ upto (spell s) (k + 1), isDig b (y.2.toNat : Int) = false) : numR b s.data.toList = (0, 110) := by
  refine if_neg ?_
  rintro ⟨_, h'⟩
  obtain ⟨y, hy, hd⟩ := h
  have : y.2 ∈ s.data.toList := by
    simp only [upto, List.mem_map, List.mem_range] at hy
    obtain ⟨j, hj, rfl⟩ := hy
    have hj' : j < s.data.toList.length := by simp; have : s.size = s.data.size := rfl; omega
    simp only [spell]
    rw [List.getElem?_eq_getElem hj']
    exact List.getElem_mem _
  have := h' _ this
  rw [hd] at this
  cases this

set_option maxRecDepth 100000 in
set_option maxHeartbeats 2000000 in
theorem number_in (n : Nat) (hn : 3 ≤ n) (b : Int) (hb : Is64 b) (s : ByteArray) (hs : ((s.size : Int) == 0) = false) (hm : s.size ≤ 9223372036854775807) (w : World) :
    CallsIn Fence.wide n Tryz.prog 200 #[.agg #[.string s, .int .u64 b]] w fun e w' => e = Two (numR b s.data.toList) ∧ Below w.heap.size w w' := by
  have h1 : 1 ≤ n := by omega
  refine callsIn_of_wp_marks Tryz.func200 rfl trivial ?_ rfl
  refine wpIn_wide.2 ?_
  simp only [Tryz.ntmps200, List.size_toArray, List.length_cons, List.length_nil, Nat.reduceAdd, Nat.reduceSub, Array.replicate_succ, Array.replicate_zero, List.push_toArray, List.append_toArray, List.nil_append, List.cons_append]
  go_wp2
  refine wp_scope_on 0 rfl ?_
  go_wp2_with (first | (go_at_call 209; refine (digitTo_any _ _).mono ?_; rintro e w' ⟨rfl, rfl⟩) | (go_at_call 210; refine (empty_no s _ hs).mono ?_; rintro e w' ⟨rfl, rfl⟩))
  go_step3
  go_wp2_with (first | (go_at_call 211; refine (all_any s _).mono ?_; rintro e w' ⟨rfl, rfl⟩))
  have k0 := (((((((Has.new w 229 #[.string s, .int .u64 b]).alloc (.cells #[.int .u64 0] 123)).alloc (.cells #[.int .i64 0] 42)).alloc (.cells #[.int .u64 b] 123)).alloc (.cells #[.func (.func 217) #[] #[.pointer (some ⟨w.heap.size + 1 + 1 + 1, 0, none⟩)]] 101)).alloc (.cells #[.bool true] 4)).alloc (.cells #[.string s] 226))
  have kB : Below w.heap.size w (((((((w.alloc (.cells #[.string s, .int .u64 b] 229)).alloc (.cells #[.int .u64 0] 123)).alloc (.cells #[.int .i64 0] 42)).alloc (.cells #[.int .u64 b] 123)).alloc (.cells #[.func (.func 217) #[] #[.pointer (some ⟨w.heap.size + 1 + 1 + 1, 0, none⟩)]] 101)).alloc (.cells #[.bool true] 4)).alloc (.cells #[.string s] 226)) :=
    (((((((Below.refl _ w).alloc (Nat.le_refl _) _).alloc (by simp) _).alloc (by simp; omega) _).alloc (by simp; omega) _).alloc (by simp; omega) _).alloc (by simp; omega) _).alloc (by simp; omega) _
  obtain ⟨w1, hw1⟩ : ∃ w1, w.alloc (.cells #[.string s, .int .u64 b] 229) = w1 := ⟨_, rfl⟩
  have z1 : w1.heap.size = w.heap.size + 1 := by rw [← hw1]; simp
  rw [hw1] at k0 kB ⊢
  have k1 := ((((((Has.new w1 123 #[.int .u64 0]).alloc (.cells #[.int .i64 0] 42)).alloc (.cells #[.int .u64 b] 123)).alloc (.cells #[.func (.func 217) #[] #[.pointer (some ⟨w.heap.size + 1 + 1 + 1, 0, none⟩)]] 101)).alloc (.cells #[.bool true] 4)).alloc (.cells #[.string s] 226))
  rw [z1] at k1
  obtain ⟨w2, hw2⟩ : ∃ w2, w1.alloc (.cells #[.int .u64 0] 123) = w2 := ⟨_, rfl⟩
  have z2 : w2.heap.size = w.heap.size + 1 + 1 := by rw [← hw2]; simp [z1]
  rw [hw2] at k0 k1 kB ⊢
  have k2 := (((((Has.new w2 42 #[.int .i64 0]).alloc (.cells #[.int .u64 b] 123)).alloc (.cells #[.func (.func 217) #[] #[.pointer (some ⟨w.heap.size + 1 + 1 + 1, 0, none⟩)]] 101)).alloc (.cells #[.bool true] 4)).alloc (.cells #[.string s] 226))
  rw [z2] at k2
  obtain ⟨w3, hw3⟩ : ∃ w3, w2.alloc (.cells #[.int .i64 0] 42) = w3 := ⟨_, rfl⟩
  have z3 : w3.heap.size = w.heap.size + 1 + 1 + 1 := by rw [← hw3]; simp [z2]
  rw [hw3] at k0 k1 k2 kB ⊢
  have k3 := ((((Has.new w3 123 #[.int .u64 b]).alloc (.cells #[.func (.func 217) #[] #[.pointer (some ⟨w.heap.size + 1 + 1 + 1, 0, none⟩)]] 101)).alloc (.cells #[.bool true] 4)).alloc (.cells #[.string s] 226))
  rw [z3] at k3
  obtain ⟨w4, hw4⟩ : ∃ w4, w3.alloc (.cells #[.int .u64 b] 123) = w4 := ⟨_, rfl⟩
  have z4 : w4.heap.size = w.heap.size + 1 + 1 + 1 + 1 := by rw [← hw4]; simp [z3]
  rw [hw4] at k0 k1 k2 k3 kB ⊢
  have k4 := (((Has.new w4 101 #[.func (.func 217) #[] #[.pointer (some ⟨w.heap.size + 1 + 1 + 1, 0, none⟩)]]).alloc (.cells #[.bool true] 4)).alloc (.cells #[.string s] 226))
  rw [z4] at k4
  obtain ⟨w5, hw5⟩ : ∃ w5, w4.alloc (.cells #[.func (.func 217) #[] #[.pointer (some ⟨w.heap.size + 1 + 1 + 1, 0, none⟩)]] 101) = w5 := ⟨_, rfl⟩
  have z5 : w5.heap.size = w.heap.size + 1 + 1 + 1 + 1 + 1 := by rw [← hw5]; simp [z4]
  rw [hw5] at k0 k1 k2 k3 k4 kB ⊢
  have k5 := ((Has.new w5 4 #[.bool true]).alloc (.cells #[.string s] 226))
  rw [z5] at k5
  obtain ⟨w6, hw6⟩ : ∃ w6, w5.alloc (.cells #[.bool true] 4) = w6 := ⟨_, rfl⟩
  have z6 : w6.heap.size = w.heap.size + 1 + 1 + 1 + 1 + 1 + 1 := by rw [← hw6]; simp [z5]
  rw [hw6] at k0 k1 k2 k3 k4 k5 kB ⊢
  have k6 := (Has.new w6 226 #[.string s])
  rw [z6] at k6
  obtain ⟨w7, hw7⟩ : ∃ w7, w6.alloc (.cells #[.string s] 226) = w7 := ⟨_, rfl⟩
  have z7 : w7.heap.size = w.heap.size + 1 + 1 + 1 + 1 + 1 + 1 + 1 := by rw [← hw7]; simp [z6]
  rw [hw7] at k0 k1 k2 k3 k4 k5 k6 kB ⊢
  clear hw1 hw2 hw3 hw4 hw5 hw6 hw7 z1 z2 z3 z4 z5 z6
  refine (wpIn_wide (n := n)).1 ?_
  refine wpIn_rangeFunc_ownG rfl h1 (gf := 219) (lb := #[.pointer (some ⟨w.heap.size + 1 + 1 + 1 + 1 + 1 + 1, 0, none⟩)]) rfl trivial (enters_of Tryz.func219 (by kernel_rfl) rfl)
    (all_stops (n - 1) (by omega) s hm (w.heap.size + 1 + 1 + 1 + 1 + 1 + 1) w7 k6) Kept.trans (kept_b (fun k e => by subst e; omega)) (Below.refl _ _) (fun _ => rfl)
    (NumI b s w) (NumX b w) (numI_from b s w _ (by omega)) (numX_from b w _ (by omega))
    ⟨by simp, k0, k1, k2, k3, k4, k5, k6, kB⟩
    (fun y => { tmps := #[.agg #[.string s, .int .u64 b], .pointer (some ⟨w.heap.size, 0, none⟩), .int .u64 0, .int .i64 0, .pointer (some ⟨w.heap.size + 1, 0, none⟩), .pointer (some ⟨w.heap.size + 1 + 1, 0, none⟩), .pointer (some ⟨w.heap.size + 1 + 1 + 1 + 1, 0, none⟩), .pointer (some ⟨w.heap.size + 1 + 1 + 1 + 1 + 1, 0, none⟩), undef, .int .u8 (y.2.toNat : Int), .pointer (some ⟨w.heap.size, 1, none⟩), .int .u64 b, .func (.func 217) #[] #[.pointer (some ⟨w.heap.size + 1 + 1 + 1, 0, none⟩)], .pointer (some ⟨w.heap.size, 0, none⟩), .string s, .bool false, .pointer (some ⟨w.heap.size, 0, none⟩), .string s, .func (.func 219) #[] #[.pointer (some ⟨w.heap.size + 1 + 1 + 1 + 1 + 1 + 1, 0, none⟩)], .int .i64 (y.1 : Int), .int .u8 (y.2.toNat : Int), undef, undef, undef, undef, undef, undef, undef, undef, undef, undef, undef, undef, undef, undef, undef, undef, undef, undef], defers := [] }) ?assign ?body ?done ?stop
  case assign =>
    intro l y W K hK
    dsimp only [encPair]
    gi_wp2
    exact hK
  case body =>
    rintro l pre y W ⟨hall, b0, b1, b2, b3, b4, b5, b6, hB⟩ hlen
    have c00 := b0.cell 0
    have c01 := b0.cell 1
    have c1 := b1.cell 0
    have c2 := b2.cell 0
    have c3 := b3.cell 0
    have c4 := b4.cell 0
    have c5 := b5.cell 0
    have f1 := b1.free 0
    have f2 := b2.free 0
    have f5 := b5.free 0
    have hy0 : (0 : Int) ≤ (y.2.toNat : Int) := by omega
    have hy1 := byte_lt y.2
    have hgs := goes_snoc b pre y
    have hg64 : Is64 (goes b pre).1 := goesR_64 hb _
    generalize hg : goes b pre = g at hgs hg64 c1 c2 b1 b2
    clear hg
    have hgs' := Lib.hid hgs
    have hg64' := Lib.hid hg64
    have hall' := Lib.hid hall
    clear hgs hg64 hall
    cases hd : isDig b (y.2.toNat : Int) with
    | false =>
      have hd' := Lib.hid hd
      gi_wp2_with (gi_at_call 217; refine (CallsIn.inRound l (callsIn_wide.2 (digitTo1_any _ b _ _ hy0 hy1 c3))).mono ?_; rintro e w' ⟨rfl, q, rfl⟩)
      exact ⟨((others_drewN W q).trans (KeepsOthers.setCell _ _ _)).from _, rfl, ⟨y, by simp, hd'.out⟩, (b5.drewN q).put 0 _, (below_draws hB q).setCell (by simp; omega) _⟩
    | true =>
      have hd' := Lib.hid hd
      by_cases hz : g.2 = 0
      · have hz1 : (g.2 == 0) = true := by rw [beq_iff_eq]; exact hz
        have hz' := Lib.hid hz
        clear hz
        gi_wp2_with (first | (gi_at_call 217; refine (CallsIn.inRound l (callsIn_wide.2 (digitTo1_any _ b _ _ hy0 hy1 c3))).mono ?_; rintro e w' ⟨rfl, q, rfl⟩))
        refine (CallsIn.inRound l (callsIn_wide.2 (more_any s b g.1 _ _ hb hg64'.out hy0 hy1))).mono ?_
        rintro e W2 ⟨rfl, hb2⟩
        simp only [Two]
        have d0 := (b0.drewN q).below hb2 (b0.drewN q).lt
        have d1 := (b1.drewN q).below hb2 (b1.drewN q).lt
        have d2 := (b2.drewN q).below hb2 (b2.drewN q).lt
        have d3 := (b3.drewN q).below hb2 (b3.drewN q).lt
        have d4 := (b4.drewN q).below hb2 (b4.drewN q).lt
        have d5 := (b5.drewN q).below hb2 (b5.drewN q).lt
        have d6 := (b6.drewN q).below hb2 (b6.drewN q).lt
        have e1 := d1.cell 0
        have e2 := d2.cell 0
        have g1 := d1.free 0
        have g2 := d2.free 0
        have hkeep : KeepsOthers W W2 := (others_drewN W q).trans (others_below hb2)
        have hst := Lib.hid (hgs'.out.trans (step_go hz'.out))
        have hall2 : Hid (∀ z ∈ pre ++ [y], isDig b (z.2.toNat : Int) = true) := by
          intro z hz
          rcases List.mem_append.1 hz with hz | hz
          · exact hall'.out z hz
          · rw [List.mem_singleton.1 hz]; exact hd'.out
        generalize moreR b g.1 (y.2.toNat : Int) = r at hst
        clear c00 c01 c1 c2 c3 c4 c5 f1 f2 f5
        gi_wp2
        refine ⟨((hkeep.trans (KeepsOthers.setCell _ _ _)).trans (KeepsOthers.setCell _ _ _)).from _, ((Kept.below hb2 (fun k e => by subst e; exact b6.lt)).setCell (by simp) _).setCell (by simp) _, hall2.out, ?_⟩
        rw [hst.out]
        exact ⟨(d0.other (by omega) _).other (by omega) _, (d1.put 0 _).other (by omega) _, (d2.other (by omega) _).put 0 _, (d3.other (by omega) _).other (by omega) _, (d4.other (by omega) _).other (by omega) _, (d5.other (by omega) _).other (by omega) _, (d6.other (by omega) _).other (by omega) _,
          (((below_draws hB q).trans (hb2.mono hB.size)).setCell (by simp) _).setCell (by simp; omega) _⟩
      · have hz1 : (g.2 == 0) = false := by rw [beq_eq_false_iff_ne]; exact hz
        have hz' := Lib.hid hz
        clear hz
        gi_wp2_with (first | (gi_at_call 217; refine (CallsIn.inRound l (callsIn_wide.2 (digitTo1_any _ b _ _ hy0 hy1 c3))).mono ?_; rintro e w' ⟨rfl, q, rfl⟩))
        refine ⟨(others_drewN W q).from _, (Kept.refl _ _).draws q, ?_, ?_⟩
        · intro z hz
          rcases List.mem_append.1 hz with hz | hz
          · exact hall'.out z hz
          · rw [List.mem_singleton.1 hz]; exact hd'.out
        · rw [hgs'.out, step_stay hz'.out]
          exact ⟨b0.drewN q, b1.drewN q, b2.drewN q, b3.drewN q, b4.drewN q, b5.drewN q, b6.drewN q, below_draws hB q⟩
  case done =>
    rintro D ys W hD rfl ⟨hall, b0, b1, b2, b3, b4, b5, b6, hB⟩ hKd
    have c1 := b1.cell 0
    have c2 := b2.cell 0
    have c5 := b5.cell 0
    go_wp2
    go_quiet (fail)
    all_goals go_wp2
    refine ⟨by simp, .inl ⟨_, _, rfl, run_takeDeferred hKd, ?_⟩⟩
    refine ⟨_, results_tmp2 (t := 2) (u := 3) rfl _ _ _, two_of ?_, (below_draws hB _).trans (belowK_b (w := w) (Nat.le_refl _) _ D _ _ (by omega) hKd rfl rfl)⟩
    exact numR_all b s hs hall
  case stop =>
    rintro D c pre W hD ⟨k, hk, rfl⟩ ⟨rfl, hx, b5, hB⟩ hKd
    have c5 := b5.cell 0
    refine wpIn_wide.2 ?_
    go_wp2
    go_step3
    go_wp2
    refine ⟨by simp, .inl ⟨_, _, rfl, run_takeDeferred hKd, ?_⟩⟩
    exact ⟨_, results_tmp2 (t := 2) (u := 3) rfl _ _ _, two_of (numR_one b s hk hx), hB.trans (belowK_b (w := w) (Nat.le_refl _) W D _ _ (by omega) hKd rfl rfl)⟩
end Go.Proofs.YtbmemkbfignlaaaGreatDoor
