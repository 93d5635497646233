import Derived.RangeFuncNested
import Derived.RangeFuncBox
import Derived.RangeFuncBound
import Derived.RangeFuncCalls
import Derived.RangeFuncLeaves
import Derived.Shelf.Abstract
import Derived.Shelf.RegionOpen
import Derived.WalkKit
import Derived.OwnWalkIn
import Derived.TacticsInMore
import Derived.LoopNIn
import Derived.LoopIn
import Derived.Lib.Hide
import Derived.Test.YtlcfpnegpihicaaGreatDoorPw2
import Derived.BigQuiet
import Derived.Deep.QuietTactic
import Derived.ScopeJumps
import Derived.WalkMore
import Derived.Laws.EntriesVeiled
import Derived.Test.YtlcfpnegpihicaaGreatDoorCards
import Derived.Test.YtlcfpnegpihicaaGreatDoorTie
import Derived.Test.YtlcfpnegpihicaaGreatDoorPw1
import Derived.ProofKit
import Derived.OpenShut
import Derived.Deep.DeepHandedRow
import Derived.Lib.LaidTab
import Derived.Shelf.Vars
import Derived.Test.YtlcfpnegpihicaaGreatDoorProg
namespace Go.Proofs.YtlcfpnegpihicaaGreatDoor
open Go.RowKit Go.Shelf
attribute [local go_sem] Oper.semAt_some
attribute [local go_sem] wide_fn wide_depth wide_round

/-! ## What digits are worth -/
def worth (c : Int) : Int := if 48 ≤ c ∧ c ≤ 57 then c - 48 else if 97 ≤ c ∧ c ≤ 102 then c - 87 else if 65 ≤ c ∧ c ≤ 70 then c - 55 else 16
def isDig (b c : Int) : Bool := decide (worth c < b)
def moreR (b n c : Int) : Int × Int := if (mulR n b).2 = 0 then addR (mulR n b).1 (worth c) else (0, (mulR n b).2)
theorem worth_64 (c : Int) : Is64 (worth c) := by unfold worth Is64; constructor <;> (repeat' split) <;> omega
theorem ret_u64 {a b : Int} (h : a = b) : Ending.returned (.int .u64 a) = .returned (.int .u64 b) := by rw [h]

section
set_option maxHeartbeats 400000
theorem worth_any (c : Int) (w : World) (h0 : 0 ≤ c) (h1 : c < 256) : Calls Tryz.prog 163 #[.int .u8 c] w fun e w' => e = .returned (.int .u64 (worth c)) ∧ w = w' := by
  have hw : 48 ≤ c ∧ c ≤ 57 ∨ 97 ≤ c ∧ c ≤ 102 ∨ 65 ≤ c ∧ c ≤ 70 ∨ c < 48 ∨ 57 < c ∧ c < 65 ∨ 70 < c ∧ c < 97 ∨ 102 < c := by omega
  rcases hw with h | h | h | h | h | h | h
  all_goals
    go_enter Tryz.func163, Tryz.ntmps163
    go_wp2
    go_ret
    refine ⟨ret_u64 ?_, rfl⟩
    unfold worth
    (repeat' split) <;> omega
theorem refDigit_any (c : Int) (w : World) (h0 : 0 ≤ c) (h1 : c < 256) : Calls Tryz.prog 113 #[.int .u8 c] w fun e w' => e = .returned (.int .u64 (worth c)) ∧ w = w' := by
  have hw : 48 ≤ c ∧ c ≤ 57 ∨ 97 ≤ c ∧ c ≤ 102 ∨ 65 ≤ c ∧ c ≤ 70 ∨ c < 48 ∨ 57 < c ∧ c < 65 ∨ 70 < c ∧ c < 97 ∨ 102 < c := by omega
  rcases hw with h | h | h | h | h | h | h
  all_goals
    go_enter Tryz.func113, Tryz.ntmps113
    go_wp2
    go_ret
    refine ⟨ret_u64 ?_, rfl⟩
    unfold worth
    (repeat' split) <;> omega
theorem digitTo1_any (c b : Int) (B : Nat) (w : World) (h0 : 0 ≤ c) (h1 : c < 256) (hB : w.cell? ⟨B, 0, none⟩ = some (.int .u64 b)) :
    Calls Tryz.prog 162 #[.int .u8 c, .pointer (some ⟨B, 0, none⟩)] w fun e w' => e = .returned (.bool (isDig b c)) ∧ ∃ q, w' = w.drewN q := by
  go_enter Tryz.func162, Tryz.ntmps162
  go_wp2
  go_quiet ((go_at_call 163; exact Calls.quiet_of_same ((worth_any _ _ (by omega) (by omega)).mono fun e w' ⟨h, h'⟩ => ⟨h, h'.symm⟩)))
  all_goals go_wp2
  all_goals go_ret
  all_goals exact ⟨rfl, _, rfl⟩
theorem digitTo_any (b : Int) (w : World) : Calls Tryz.prog 152 #[.int .u64 b] w fun e w' => e = .returned (.func (.func 162) #[] #[.pointer (some ⟨w.heap.size, 0, none⟩)]) ∧ w' = w.alloc (.cells #[.int .u64 b] 38) := by
  go_enter Tryz.func152, Tryz.ntmps152
  go_wp2
  go_ret
  exact ⟨rfl, rfl⟩
theorem all_any (s : ByteArray) (w : World) : Calls Tryz.prog 154 #[.string s] w fun e w' => e = .returned (.func (.func 164) #[] #[.pointer (some ⟨w.heap.size, 0, none⟩)]) ∧ w' = w.alloc (.cells #[.string s] 228) := by
  go_enter Tryz.func154, Tryz.ntmps154
  go_wp2
  go_ret
  exact ⟨rfl, rfl⟩
theorem empty_yes (w : World) : Calls Tryz.prog 153 #[.string ⟨#[]⟩] w fun e w' => e = .returned (.bool true) ∧ w = w' := by
  go_enter Tryz.func153, Tryz.ntmps153
  go_wp2
  go_ret
  exact ⟨rfl, rfl⟩
theorem empty_no (s : ByteArray) (w : World) (hs : ((s.size : Int) == 0) = false) : Calls Tryz.prog 153 #[.string s] w fun e w' => e = .returned (.bool false) ∧ w = w' := by
  go_enter Tryz.func153, Tryz.ntmps153
  go_wp2
  go_ret
  exact ⟨rfl, rfl⟩
theorem mulR_64 {a b : Int} (ha : Is64 a) (hb : Is64 b) : Is64 (mulR a b).1 := by
  have := Int.mul_nonneg ha.1 hb.1
  unfold mulR Is64 at *; split <;> constructor <;> simp <;> omega
theorem more_any (s : ByteArray) (b n c : Int) (w : World) (hb : Is64 b) (hn : Is64 n) (h0 : 0 ≤ c) (h1 : c < 256) :
    Calls Tryz.prog 155 #[.agg #[.string s, .int .u64 b], .int .u64 n, .int .u8 c] w fun e w' => e = Two (moreR b n c) ∧ Below w.heap.size w w' := by
  have hc := fun w => mul_any n b w hn hb
  have h64 := mulR_64 hn hb
  have hr : moreR b n c = if (mulR n b).2 = 0 then addR (mulR n b).1 (worth c) else (0, (mulR n b).2) := rfl
  generalize mulR n b = r at hc h64 hr
  have hw := worth_64 c
  have ha := fun w => add_any r.1 (worth c) w h64 hw
  generalize addR r.1 (worth c) = t at ha hr
  have hr' := Lib.hid hr
  have hc' := Lib.hid hc
  have ha' := Lib.hid ha
  clear hr hc ha h64 hw
  by_cases hz : r.2 = 0
  · have hz1 : (r.2 != 0) = false := by rw [bne_eq_false_iff_eq]; exact hz
    have hz' := Lib.hid hz
    clear hz
    go_enter Tryz.func155, Tryz.ntmps155
    go_wp2_with (first | (go_at_call 165; refine (hc'.out _).mono ?_; rintro e w' ⟨rfl, rfl⟩; simp only [Two]) | (go_at_call 163; refine (worth_any _ _ (by omega) (by omega)).mono ?_; rintro e w' ⟨rfl, rfl⟩) | (go_at_call 166; refine (ha'.out _).mono ?_; rintro e w' ⟨rfl, rfl⟩; simp only [Two]))
    go_ret2
    exact ⟨two_of (hr'.out.trans (if_pos hz'.out)), (Below.refl _ _).alloc (Nat.le_refl _) _⟩
  · have hz1 : (r.2 != 0) = true := by rw [bne_iff_ne]; exact hz
    have hz' := Lib.hid hz
    clear hz
    go_enter Tryz.func155, Tryz.ntmps155
    go_wp2_with (first | (go_at_call 165; refine (hc'.out _).mono ?_; rintro e w' ⟨rfl, rfl⟩; simp only [Two]))
    go_ret2
    exact ⟨two_of (hr'.out.trans (if_neg hz'.out)), (Below.refl _ _).alloc (Nat.le_refl _) _⟩
end
end Go.Proofs.YtlcfpnegpihicaaGreatDoor

namespace Go.Proofs.YtlcfpnegpihicaaGreatDoor
open Go.RowKit Go.Shelf
attribute [local go_sem] Oper.semAt_some
attribute [local go_sem] wide_fn wide_depth wide_round

/-! ## A jump on to a label that stands further on -/
theorem wp_scope_on {P : Program} {a : Act} {w : World} {Q : Exit → Act → World → Prop} {c rest : Code} (l : Nat) (hf : findLabel c l = some rest)
    (first : c.wp P (Exit.jump l (fun a w => rest.wp P (Exit.noGoto Q) a w) Q) a w) : (Code.scope c).wp P Q a w := by
  refine wp_scope_jumps l (fun a w => rest.wp P (Exit.noGoto Q) a w) (fun _ _ => 0) hf first (fun a w h => wp_mono h ?_)
  intro e a w hq
  cases e <;> first | exact hq.elim | exact hq

/-- What Each's like tells of a text. -/
def spell (s : ByteArray) (k : Nat) : Nat × UInt8 := (k, s.data.toList[k]?.getD 0)

set_option maxRecDepth 100000 in
set_option maxHeartbeats 1000000 in
theorem all1_in (n : Nat) (hn : 1 ≤ n) (s : ByteArray) (hm : s.size ≤ 9223372036854775807) (l B : Nat) (J Jx : List (Nat × UInt8) → World → Prop)
    (hY : ∀ pre y W, J pre W → pre.length < s.size → YieldAt Fence.wide (n - 1) Tryz.prog l (encPair y) W fun e W' =>
      (e = .returned (.bool true) ∧ J (pre ++ [y]) W' ∧ Kept (· = B) W W') ∨ (e = .returned (.bool false) ∧ Jx (pre ++ [y]) W'))
    (W : World) (h1 : Has W B 228 #[.string s]) (h0 : J [] W) :
    CallsIn Fence.wide n Tryz.prog 164 #[.func (.yield l) #[] #[], .pointer (some ⟨B, 0, none⟩)] W fun e W' => (∃ v, e = .returned v) ∧
      ((∃ ys, ys = upto (spell s) s.size ∧ J ys W') ∨ (∃ pre, (∃ k, k < s.size ∧ pre = upto (spell s) (k + 1)) ∧ Jx pre W')) := by
  refine callsIn_of_wp Tryz.func164 rfl trivial ?_ rfl
  simp only [Tryz.ntmps164, List.size_toArray, List.length_cons, List.length_nil, Nat.reduceAdd, Nat.reduceSub, Array.replicate_succ, Array.replicate_zero, List.push_toArray, List.append_toArray, List.nil_append, List.cons_append]
  have c1 := h1.cell 0
  gi_wp2
  gi_loopw [6] (fun i wr => ∃ k : Nat, k ≤ s.size ∧ i = .int .i64 k ∧ J (upto (spell s) k) wr ∧ Has wr B 228 #[.string s])
    (fun i _ => s.size - (intOf i).toNat)
  case atStart => exact ⟨0, Nat.zero_le _, rfl, h0, h1⟩
  case round =>
    obtain ⟨k, hk, rfl, hJs, hB⟩ := hrel
    have c2 := hB.cell 0
    by_cases hlt : k < s.size
    · obtain ⟨fn, tmps, assign, body, hy, hR⟩ := hY _ (spell s k) wr hJs (by rw [upto_length]; exact hlt)
      have hs : s.data.toList[k]?.getD 0 = s[k] := by
        rw [Array.getElem?_toList, Array.getElem?_eq_getElem (show k < s.data.size from hlt)]; rfl
      have hy' : (Instr.yield l #[.int .i64 k, .int .u8 (s[k].toNat : Int)]).run Tryz.prog wr = .ok (Next.round l fn tmps assign body) wr := by rw [← hs]; exact hy
      have hR' := Lib.hid hR
      clear hy hR hY hs
      gi_wp2
      refine hR'.out.mono ?_
      rintro e W3 (⟨rfl, hJ3, hk3⟩ | ⟨rfl, hJx3⟩)
      · have hB3 := hk3.has rfl hB
        have c3 := hB3.cell 0
        have hJ4 := Lib.hid hJ3
        gi_wp2
        exact ⟨⟨k + 1, by omega, by go_num, by rw [upto_succ]; exact hJ4.out, hB3⟩, by simp [intOf]; omega⟩
      · gi_wp2
        refine bodyPost_ret (results_none rfl _ _ _) rfl ?_
        exact ⟨⟨_, rfl⟩, .inr ⟨_, ⟨k, hlt, (upto_succ _ _).symm⟩, hJx3⟩⟩
    · obtain rfl : k = s.size := by omega
      gi_wp2
      go_end0
      exact ⟨⟨_, rfl⟩, .inl ⟨_, rfl, hJs⟩⟩
theorem all_stops (n : Nat) (hn : 1 ≤ n) (s : ByteArray) (hm : s.size ≤ 9223372036854775807) (B : Nat) (w : World) (h1 : Has w B 228 #[.string s]) :
    SeqStopsK Fence.wide n Tryz.prog 164 #[.pointer (some ⟨B, 0, none⟩)] encPair (Kept (· = B)) (fun ys => ys = upto (spell s) s.size)
      (fun pre => ∃ k, k < s.size ∧ pre = upto (spell s) (k + 1)) s.size w := fun l J Jx W hW _ _ hY h0 =>
  all1_in n hn s hm l B J Jx hY W (h1.below hW h1.lt) h0

/-! ## The number of digits -/
def step (b : Int) (r : Int × Int) (c : Int) : Int × Int := if r.2 = 0 then moreR b r.1 c else r
def goesR (b : Int) (l : List UInt8) : Int × Int := l.foldl (fun r c => step b r (c.toNat : Int)) (0, 0)
def numR (b : Int) (l : List UInt8) : Int × Int := if l ≠ [] ∧ ∀ c ∈ l, isDig b (c.toNat : Int) = true then goesR b l else (0, 110)

set_option maxRecDepth 100000 in
set_option maxHeartbeats 1000000 in
theorem number_empty (b : Int) (w : World) :
    Calls Tryz.prog 137 #[.agg #[.string ⟨#[]⟩, .int .u64 b]] w fun e w' => e = Two (numR b []) ∧ Below w.heap.size w w' := by
  go_enter Tryz.func137, Tryz.ntmps137
  go_wp2
  refine wp_scope_on 0 rfl ?_
  go_wp2_with (first | (go_at_call 152; refine (digitTo_any _ _).mono ?_; rintro e w' ⟨rfl, rfl⟩) | (go_at_call 153; refine (empty_yes _).mono ?_; rintro e w' ⟨rfl, rfl⟩))
  go_step3
  refine ⟨rfl, ?_⟩
  go_wp2
  try rw [Exit.noGoto_ret]
  go_ret2
  exact ⟨two_of rfl, ((((((Below.refl _ _).alloc (Nat.le_refl _) _).alloc (by simp) _).alloc (by simp; omega) _).alloc (by simp; omega) _).alloc (by simp; omega) _).alloc (by simp; omega) _⟩

theorem moreR_64 {b n c : Int} (hb : Is64 b) (hn : Is64 n) : Is64 (moreR b n c).1 := by
  unfold moreR
  split
  · exact addR_64 (mulR_64 hn hb) (worth_64 c)
  · exact ⟨by simp, by simp⟩
theorem step_64 {b c : Int} {r : Int × Int} (hb : Is64 b) (hr : Is64 r.1) : Is64 (step b r c).1 := by
  unfold step
  split
  · exact moreR_64 hb hr
  · exact hr
theorem goesR_snoc (b : Int) (l : List UInt8) (c : UInt8) : goesR b (l ++ [c]) = step b (goesR b l) (c.toNat : Int) := by simp [goesR]
theorem goesR_64 {b : Int} (hb : Is64 b) (l : List UInt8) : Is64 (goesR b l).1 := by
  have : ∀ (l : List UInt8) (r : Int × Int), Is64 r.1 → Is64 (l.foldl (fun r c => step b r (c.toNat : Int)) r).1 := by
    intro l
    induction l with
    | nil => intro r h; exact h
    | cons c l ih => intro r h; exact ih _ (step_64 hb h)
  exact this l _ ⟨by simp, by simp⟩
def goes (b : Int) (pre : List (Nat × UInt8)) : Int × Int := goesR b (pre.map Prod.snd)
theorem goes_snoc (b : Int) (pre : List (Nat × UInt8)) (y : Nat × UInt8) : goes b (pre ++ [y]) = step b (goes b pre) (y.2.toNat : Int) := by simp [goes, goesR_snoc]
theorem step_go {b c : Int} {r : Int × Int} (h : r.2 = 0) : step b r c = moreR b r.1 c := if_pos h
theorem step_stay {b c : Int} {r : Int × Int} (h : ¬ r.2 = 0) : step b r c = r := if_neg h
theorem byte_lt (c : UInt8) : (c.toNat : Int) < 256 := by have := c.toNat_lt; omega
/-- What the loop over a text's bytes keeps, while all are digits. -/
def NumI (b : Int) (s : ByteArray) (w : World) (pre : List (Nat × UInt8)) (W : World) : Prop :=
  (∀ y ∈ pre, isDig b (y.2.toNat : Int) = true) ∧ Has W w.heap.size 231 #[.string s, .int .u64 b] ∧ Has W (w.heap.size + 1) 38 #[.int .u64 (goes b pre).1] ∧
    Has W (w.heap.size + 1 + 1) 25 #[.int .i64 (goes b pre).2] ∧ Has W (w.heap.size + 1 + 1 + 1) 38 #[.int .u64 b] ∧
    Has W (w.heap.size + 1 + 1 + 1 + 1) 215 #[.func (.func 162) #[] #[.pointer (some ⟨w.heap.size + 1 + 1 + 1, 0, none⟩)]] ∧
    Has W (w.heap.size + 1 + 1 + 1 + 1 + 1) 4 #[.bool true] ∧ Has W (w.heap.size + 1 + 1 + 1 + 1 + 1 + 1) 228 #[.string s] ∧ Below w.heap.size w W
/-- .. and where one is none. -/
def NumX (b : Int) (w : World) (c : Code) (pre : List (Nat × UInt8)) (W : World) : Prop :=
  c = .exit 0 ∧ (∃ y ∈ pre, isDig b (y.2.toNat : Int) = false) ∧ Has W (w.heap.size + 1 + 1 + 1 + 1 + 1) 4 #[.bool false] ∧ Below w.heap.size w W
theorem numI_from (b : Int) (s : ByteArray) (w : World) (B : Nat) (hB : w.heap.size + 1 + 1 + 1 + 1 + 1 + 1 < B) : OwnFrom B (NumI b s w) := by
  refine OwnFrom.and (ownFrom_pure _ _) (OwnFrom.and (has_from (by omega) _ _) (OwnFrom.and (has_from (by omega) _ (fun pre => #[.int .u64 (goes b pre).1])) (OwnFrom.and (has_from (by omega) _ (fun pre => #[.int .i64 (goes b pre).2])) (OwnFrom.and (has_from (by omega) _ _) (OwnFrom.and (has_from (by omega) _ _) (OwnFrom.and (has_from (by omega) _ _) (OwnFrom.and (has_from (by omega) _ _) (ownFrom_below (Nat.le_refl _) (by omega)))))))))
theorem numX_from (b : Int) (w : World) (B : Nat) (hB : w.heap.size + 1 + 1 + 1 + 1 + 1 < B) (c : Code) : OwnFrom B (NumX b w c) := by
  refine OwnFrom.and (ownFrom_pure _ _) (OwnFrom.and (ownFrom_pure _ _) (OwnFrom.and (has_from (by omega) _ _) (ownFrom_below (Nat.le_refl _) (by omega))))

theorem spell_all (s : ByteArray) : (upto (spell s) s.size).map Prod.snd = s.data.toList := by
  apply List.ext_getElem
  · simp only [List.length_map, upto_length, Array.length_toList]; rfl
  · intro i h1 h2
    simp [upto, spell]
    rw [Array.getElem?_eq_getElem (by simpa using h2)]; rfl
theorem numR_all (b : Int) (s : ByteArray) (hs : ((s.size : Int) == 0) = false) (h : ∀ y ∈ upto (spell s) s.size, isDig b (y.2.toNat : Int) = true) : numR b s.data.toList = ((goes b (upto (spell s) s.size)).1, (goes b (upto (spell s) s.size)).2) := by
  have e : goes b (upto (spell s) s.size) = goesR b s.data.toList := by unfold goes; rw [spell_all]
  rw [e]
  have h' : ∀ c ∈ s.data.toList, isDig b (c.toNat : Int) = true := by
    intro c hc
    rw [← spell_all] at hc
    obtain ⟨y, hy, rfl⟩ := List.mem_map.1 hc
    exact h y hy
  have h0 : s.data.toList ≠ [] := by
    intro e
    rw [beq_eq_false_iff_ne] at hs
    apply hs
    have : s.size = 0 := by
      show s.data.size = 0
      rw [← Array.length_toList, e]; rfl
    omega
  exact if_pos ⟨h0, h'⟩
theorem numR_one (b : Int) (s : ByteArray) {k : Nat} (hk : k < s.size) (h : ∃ y ∈ upto (spell s) (k + 1), isDig b (y.2.toNat : Int) = false) : numR b s.data.toList = (0, 110) := by
  refine if_neg ?_
  rintro ⟨_, h'⟩
  obtain ⟨y, hy, hd⟩ := h
  have : y.2 ∈ s.data.toList := by
    simp only [upto, List.mem_map, List.mem_range] at hy
    obtain ⟨j, hj, rfl⟩ := hy
    have hj' : j < s.data.toList.length := by simp; have : s.size = s.data.size := rfl; omega
    simp only [spell]
    rw [List.getElem?_eq_getElem hj']
    exact List.getElem_mem _
  have := h' _ this
  rw [hd] at this
  cases this

set_option maxRecDepth 100000 in
set_option maxHeartbeats 2000000 in
theorem number_in (n : Nat) (hn : 3 ≤ n) (b : Int) (hb : Is64 b) (s : ByteArray) (hs : ((s.size : Int) == 0) = false) (hm : s.size ≤ 9223372036854775807) (w : World) :
    CallsIn Fence.wide n Tryz.prog 137 #[.agg #[.string s, .int .u64 b]] w fun e w' => e = Two (numR b s.data.toList) ∧ Below w.heap.size w w' := by
  have h1 : 1 ≤ n := by omega
  refine callsIn_of_wp_marks Tryz.func137 rfl trivial ?_ rfl
  refine wpIn_wide.2 ?_
  simp only [Tryz.ntmps137, List.size_toArray, List.length_cons, List.length_nil, Nat.reduceAdd, Nat.reduceSub, Array.replicate_succ, Array.replicate_zero, List.push_toArray, List.append_toArray, List.nil_append, List.cons_append]
  go_wp2
  refine wp_scope_on 0 rfl ?_
  go_wp2_with (first | (go_at_call 152; refine (digitTo_any _ _).mono ?_; rintro e w' ⟨rfl, rfl⟩) | (go_at_call 153; refine (empty_no s _ hs).mono ?_; rintro e w' ⟨rfl, rfl⟩))
  go_step3
  go_wp2_with (first | (go_at_call 154; refine (all_any s _).mono ?_; rintro e w' ⟨rfl, rfl⟩))
  have k0 := (((((((Has.new w 231 #[.string s, .int .u64 b]).alloc (.cells #[.int .u64 0] 38)).alloc (.cells #[.int .i64 0] 25)).alloc (.cells #[.int .u64 b] 38)).alloc (.cells #[.func (.func 162) #[] #[.pointer (some ⟨w.heap.size + 1 + 1 + 1, 0, none⟩)]] 215)).alloc (.cells #[.bool true] 4)).alloc (.cells #[.string s] 228))
  have kB : Below w.heap.size w (((((((w.alloc (.cells #[.string s, .int .u64 b] 231)).alloc (.cells #[.int .u64 0] 38)).alloc (.cells #[.int .i64 0] 25)).alloc (.cells #[.int .u64 b] 38)).alloc (.cells #[.func (.func 162) #[] #[.pointer (some ⟨w.heap.size + 1 + 1 + 1, 0, none⟩)]] 215)).alloc (.cells #[.bool true] 4)).alloc (.cells #[.string s] 228)) :=
    (((((((Below.refl _ w).alloc (Nat.le_refl _) _).alloc (by simp) _).alloc (by simp; omega) _).alloc (by simp; omega) _).alloc (by simp; omega) _).alloc (by simp; omega) _).alloc (by simp; omega) _
  obtain ⟨w1, hw1⟩ : ∃ w1, w.alloc (.cells #[.string s, .int .u64 b] 231) = w1 := ⟨_, rfl⟩
  have z1 : w1.heap.size = w.heap.size + 1 := by rw [← hw1]; simp
  rw [hw1] at k0 kB ⊢
  have k1 := ((((((Has.new w1 38 #[.int .u64 0]).alloc (.cells #[.int .i64 0] 25)).alloc (.cells #[.int .u64 b] 38)).alloc (.cells #[.func (.func 162) #[] #[.pointer (some ⟨w.heap.size + 1 + 1 + 1, 0, none⟩)]] 215)).alloc (.cells #[.bool true] 4)).alloc (.cells #[.string s] 228))
  rw [z1] at k1
  obtain ⟨w2, hw2⟩ : ∃ w2, w1.alloc (.cells #[.int .u64 0] 38) = w2 := ⟨_, rfl⟩
  have z2 : w2.heap.size = w.heap.size + 1 + 1 := by rw [← hw2]; simp [z1]
  rw [hw2] at k0 k1 kB ⊢
  have k2 := (((((Has.new w2 25 #[.int .i64 0]).alloc (.cells #[.int .u64 b] 38)).alloc (.cells #[.func (.func 162) #[] #[.pointer (some ⟨w.heap.size + 1 + 1 + 1, 0, none⟩)]] 215)).alloc (.cells #[.bool true] 4)).alloc (.cells #[.string s] 228))
  rw [z2] at k2
  obtain ⟨w3, hw3⟩ : ∃ w3, w2.alloc (.cells #[.int .i64 0] 25) = w3 := ⟨_, rfl⟩
  have z3 : w3.heap.size = w.heap.size + 1 + 1 + 1 := by rw [← hw3]; simp [z2]
  rw [hw3] at k0 k1 k2 kB ⊢
  have k3 := ((((Has.new w3 38 #[.int .u64 b]).alloc (.cells #[.func (.func 162) #[] #[.pointer (some ⟨w.heap.size + 1 + 1 + 1, 0, none⟩)]] 215)).alloc (.cells #[.bool true] 4)).alloc (.cells #[.string s] 228))
  rw [z3] at k3
  obtain ⟨w4, hw4⟩ : ∃ w4, w3.alloc (.cells #[.int .u64 b] 38) = w4 := ⟨_, rfl⟩
  have z4 : w4.heap.size = w.heap.size + 1 + 1 + 1 + 1 := by rw [← hw4]; simp [z3]
  rw [hw4] at k0 k1 k2 k3 kB ⊢
  have k4 := (((Has.new w4 215 #[.func (.func 162) #[] #[.pointer (some ⟨w.heap.size + 1 + 1 + 1, 0, none⟩)]]).alloc (.cells #[.bool true] 4)).alloc (.cells #[.string s] 228))
  rw [z4] at k4
  obtain ⟨w5, hw5⟩ : ∃ w5, w4.alloc (.cells #[.func (.func 162) #[] #[.pointer (some ⟨w.heap.size + 1 + 1 + 1, 0, none⟩)]] 215) = w5 := ⟨_, rfl⟩
  have z5 : w5.heap.size = w.heap.size + 1 + 1 + 1 + 1 + 1 := by rw [← hw5]; simp [z4]
  rw [hw5] at k0 k1 k2 k3 k4 kB ⊢
  have k5 := ((Has.new w5 4 #[.bool true]).alloc (.cells #[.string s] 228))
  rw [z5] at k5
  obtain ⟨w6, hw6⟩ : ∃ w6, w5.alloc (.cells #[.bool true] 4) = w6 := ⟨_, rfl⟩
  have z6 : w6.heap.size = w.heap.size + 1 + 1 + 1 + 1 + 1 + 1 := by rw [← hw6]; simp [z5]
  rw [hw6] at k0 k1 k2 k3 k4 k5 kB ⊢
  have k6 := (Has.new w6 228 #[.string s])
  rw [z6] at k6
  obtain ⟨w7, hw7⟩ : ∃ w7, w6.alloc (.cells #[.string s] 228) = w7 := ⟨_, rfl⟩
  have z7 : w7.heap.size = w.heap.size + 1 + 1 + 1 + 1 + 1 + 1 + 1 := by rw [← hw7]; simp [z6]
  rw [hw7] at k0 k1 k2 k3 k4 k5 k6 kB ⊢
  clear hw1 hw2 hw3 hw4 hw5 hw6 hw7 z1 z2 z3 z4 z5 z6
  refine (wpIn_wide (n := n)).1 ?_
  refine wpIn_rangeFunc_ownG rfl h1 (gf := 164) (lb := #[.pointer (some ⟨w.heap.size + 1 + 1 + 1 + 1 + 1 + 1, 0, none⟩)]) rfl trivial (enters_of Tryz.func164 (by kernel_rfl) rfl)
    (all_stops (n - 1) (by omega) s hm (w.heap.size + 1 + 1 + 1 + 1 + 1 + 1) w7 k6) Kept.trans (kept_b (fun k e => by subst e; omega)) (Below.refl _ _) (fun _ => rfl)
    (NumI b s w) (NumX b w) (numI_from b s w _ (by omega)) (numX_from b w _ (by omega))
    ⟨by simp, k0, k1, k2, k3, k4, k5, k6, kB⟩
    (fun y => { tmps := #[.agg #[.string s, .int .u64 b], .pointer (some ⟨w.heap.size, 0, none⟩), .int .u64 0, .int .i64 0, .pointer (some ⟨w.heap.size + 1, 0, none⟩), .pointer (some ⟨w.heap.size + 1 + 1, 0, none⟩), .pointer (some ⟨w.heap.size + 1 + 1 + 1 + 1, 0, none⟩), .pointer (some ⟨w.heap.size + 1 + 1 + 1 + 1 + 1, 0, none⟩), undef, .int .u8 (y.2.toNat : Int), .pointer (some ⟨w.heap.size, 1, none⟩), .int .u64 b, .func (.func 162) #[] #[.pointer (some ⟨w.heap.size + 1 + 1 + 1, 0, none⟩)], .pointer (some ⟨w.heap.size, 0, none⟩), .string s, .bool false, .pointer (some ⟨w.heap.size, 0, none⟩), .string s, .func (.func 164) #[] #[.pointer (some ⟨w.heap.size + 1 + 1 + 1 + 1 + 1 + 1, 0, none⟩)], .int .i64 (y.1 : Int), .int .u8 (y.2.toNat : Int), undef, undef, undef, undef, undef, undef, undef, undef, undef, undef, undef, undef, undef, undef, undef, undef, undef, undef], defers := [] }) ?assign ?body ?done ?stop
  case assign =>
    intro l y W K hK
    dsimp only [encPair]
    gi_wp2
    exact hK
  case body =>
    rintro l pre y W ⟨hall, b0, b1, b2, b3, b4, b5, b6, hB⟩ hlen
    have c00 := b0.cell 0
    have c01 := b0.cell 1
    have c1 := b1.cell 0
    have c2 := b2.cell 0
    have c3 := b3.cell 0
    have c4 := b4.cell 0
    have c5 := b5.cell 0
    have f1 := b1.free 0
    have f2 := b2.free 0
    have f5 := b5.free 0
    have hy0 : (0 : Int) ≤ (y.2.toNat : Int) := by omega
    have hy1 := byte_lt y.2
    have hgs := goes_snoc b pre y
    have hg64 : Is64 (goes b pre).1 := goesR_64 hb _
    generalize hg : goes b pre = g at hgs hg64 c1 c2 b1 b2
    clear hg
    have hgs' := Lib.hid hgs
    have hg64' := Lib.hid hg64
    have hall' := Lib.hid hall
    clear hgs hg64 hall
    cases hd : isDig b (y.2.toNat : Int) with
    | false =>
      have hd' := Lib.hid hd
      gi_wp2_with (gi_at_call 162; refine (CallsIn.inRound l (callsIn_wide.2 (digitTo1_any _ b _ _ hy0 hy1 c3))).mono ?_; rintro e w' ⟨rfl, q, rfl⟩)
      exact ⟨((others_drewN W q).trans (KeepsOthers.setCell _ _ _)).from _, rfl, ⟨y, by simp, hd'.out⟩, (b5.drewN q).put 0 _, (below_draws hB q).setCell (by simp; omega) _⟩
    | true =>
      have hd' := Lib.hid hd
      by_cases hz : g.2 = 0
      · have hz1 : (g.2 == 0) = true := by rw [beq_iff_eq]; exact hz
        have hz' := Lib.hid hz
        clear hz
        gi_wp2_with (first | (gi_at_call 162; refine (CallsIn.inRound l (callsIn_wide.2 (digitTo1_any _ b _ _ hy0 hy1 c3))).mono ?_; rintro e w' ⟨rfl, q, rfl⟩))
        refine (CallsIn.inRound l (callsIn_wide.2 (more_any s b g.1 _ _ hb hg64'.out hy0 hy1))).mono ?_
        rintro e W2 ⟨rfl, hb2⟩
        simp only [Two]
        have d0 := (b0.drewN q).below hb2 (b0.drewN q).lt
        have d1 := (b1.drewN q).below hb2 (b1.drewN q).lt
        have d2 := (b2.drewN q).below hb2 (b2.drewN q).lt
        have d3 := (b3.drewN q).below hb2 (b3.drewN q).lt
        have d4 := (b4.drewN q).below hb2 (b4.drewN q).lt
        have d5 := (b5.drewN q).below hb2 (b5.drewN q).lt
        have d6 := (b6.drewN q).below hb2 (b6.drewN q).lt
        have e1 := d1.cell 0
        have e2 := d2.cell 0
        have g1 := d1.free 0
        have g2 := d2.free 0
        have hkeep : KeepsOthers W W2 := (others_drewN W q).trans (others_below hb2)
        have hst := Lib.hid (hgs'.out.trans (step_go hz'.out))
        have hall2 : Hid (∀ z ∈ pre ++ [y], isDig b (z.2.toNat : Int) = true) := by
          intro z hz
          rcases List.mem_append.1 hz with hz | hz
          · exact hall'.out z hz
          · rw [List.mem_singleton.1 hz]; exact hd'.out
        generalize moreR b g.1 (y.2.toNat : Int) = r at hst
        clear c00 c01 c1 c2 c3 c4 c5 f1 f2 f5
        gi_wp2
        refine ⟨((hkeep.trans (KeepsOthers.setCell _ _ _)).trans (KeepsOthers.setCell _ _ _)).from _, ((Kept.below hb2 (fun k e => by subst e; exact b6.lt)).setCell (by simp) _).setCell (by simp) _, hall2.out, ?_⟩
        rw [hst.out]
        exact ⟨(d0.other (by omega) _).other (by omega) _, (d1.put 0 _).other (by omega) _, (d2.other (by omega) _).put 0 _, (d3.other (by omega) _).other (by omega) _, (d4.other (by omega) _).other (by omega) _, (d5.other (by omega) _).other (by omega) _, (d6.other (by omega) _).other (by omega) _,
          (((below_draws hB q).trans (hb2.mono hB.size)).setCell (by simp) _).setCell (by simp; omega) _⟩
      · have hz1 : (g.2 == 0) = false := by rw [beq_eq_false_iff_ne]; exact hz
        have hz' := Lib.hid hz
        clear hz
        gi_wp2_with (first | (gi_at_call 162; refine (CallsIn.inRound l (callsIn_wide.2 (digitTo1_any _ b _ _ hy0 hy1 c3))).mono ?_; rintro e w' ⟨rfl, q, rfl⟩))
        refine ⟨(others_drewN W q).from _, (Kept.refl _ _).draws q, ?_, ?_⟩
        · intro z hz
          rcases List.mem_append.1 hz with hz | hz
          · exact hall'.out z hz
          · rw [List.mem_singleton.1 hz]; exact hd'.out
        · rw [hgs'.out, step_stay hz'.out]
          exact ⟨b0.drewN q, b1.drewN q, b2.drewN q, b3.drewN q, b4.drewN q, b5.drewN q, b6.drewN q, below_draws hB q⟩
  case done =>
    rintro D ys W hD rfl ⟨hall, b0, b1, b2, b3, b4, b5, b6, hB⟩ hKd
    have c1 := b1.cell 0
    have c2 := b2.cell 0
    have c5 := b5.cell 0
    go_wp2
    go_quiet (fail)
    all_goals go_wp2
    refine ⟨by simp, .inl ⟨_, _, rfl, run_takeDeferred hKd, ?_⟩⟩
    refine ⟨_, results_tmp2 (t := 2) (u := 3) rfl _ _ _, two_of ?_, (below_draws hB _).trans (belowK_b (w := w) (Nat.le_refl _) _ D _ _ (by omega) hKd rfl rfl)⟩
    exact numR_all b s hs hall
  case stop =>
    rintro D c pre W hD ⟨k, hk, rfl⟩ ⟨rfl, hx, b5, hB⟩ hKd
    have c5 := b5.cell 0
    refine wpIn_wide.2 ?_
    go_wp2
    go_step3
    go_wp2
    refine ⟨by simp, .inl ⟨_, _, rfl, run_takeDeferred hKd, ?_⟩⟩
    exact ⟨_, results_tmp2 (t := 2) (u := 3) rfl _ _ _, two_of (numR_one b s hk hx), hB.trans (belowK_b (w := w) (Nat.le_refl _) W D _ _ (by omega) hKd rfl rfl)⟩
end Go.Proofs.YtlcfpnegpihicaaGreatDoor

namespace Go.Proofs.YtlcfpnegpihicaaGreatDoor
open Go.RowKit Go.Shelf
attribute [local go_sem] Oper.semAt_some
attribute [local go_sem] wide_fn wide_depth wide_round

/-! ## The table of bases -/
def Tab (W : World) : Prop := W.cell? ⟨3, 0, none⟩ = some (.int .u64 10) ∧ W.cell? ⟨3, 1, none⟩ = some (.int .u64 16)
theorem Tab.lt {W : World} (h : Tab W) : 3 < W.heap.size := by
  rcases Nat.lt_or_ge 3 W.heap.size with h' | h'
  · exact h'
  · have := h.1
    simp [World.cell?, Array.getElem?_eq_none h'] at this
theorem Tab.below {W W' : World} (h : Tab W) (hb : Below W.heap.size W W') : Tab W' :=
  ⟨(hb.cell (p := ⟨3, 0, none⟩) h.lt).trans h.1, (hb.cell (p := ⟨3, 1, none⟩) h.lt).trans h.2⟩

theorem number_any (b : Int) (hb : Is64 b) (s : ByteArray) (hm : s.size ≤ 9223372036854775807) (w : World) :
    Calls Tryz.prog 137 #[.agg #[.string s, .int .u64 b]] w fun e w' => e = Two (numR b s.data.toList) ∧ Below w.heap.size w w' := by
  cases hs : ((s.size : Int) == 0) with
  | false => exact callsIn_wide.1 (number_in 3 (by omega) b hb s hs hm w)
  | true =>
    rw [beq_iff_eq] at hs
    have : s.data = #[] := Array.eq_empty_of_size_eq_zero (by have : s.size = s.data.size := rfl; omega)
    obtain ⟨d⟩ := s
    simp only at this
    subst this
    exact number_empty b w

theorem is64_10 : Is64 10 := ⟨by omega, by omega⟩
section
set_option maxHeartbeats 400000
theorem digitsCall_any (s : ByteArray) (hm : s.size ≤ 9223372036854775807) (w : World) (hT : Tab w) :
    Calls Tryz.prog 118 #[.string s] w fun e w' => e = Two (numR 10 s.data.toList) ∧ Below w.heap.size w w' := by
  obtain ⟨t0, t1⟩ := hT
  go_enter Tryz.func118, Tryz.ntmps118
  go_wp2_with (go_at_call 137; refine (number_any _ is64_10 s hm _).mono ?_; rintro e w' ⟨rfl, hb⟩; simp only [Two])
  go_ret2
  exact ⟨two_of rfl, by assumption⟩
end

/-! ## The document's reading -/
theorem err_add {a b : Int} (h : ¬ (addR a b).2 = 0) : addR a b = (0, 111) := by
  unfold addR at *; split at h
  · exact absurd rfl h
  · rename_i h'; rw [if_neg h']
theorem err_mul {a b : Int} (h : ¬ (mulR a b).2 = 0) : mulR a b = (0, 111) := by
  unfold mulR at *; split at h
  · exact absurd rfl h
  · rename_i h'; rw [if_neg h']
theorem goesR_take (b : Int) (l : List UInt8) {k : Nat} (hk : k < l.length) : goesR b (l.take (k + 1)) = step b (goesR b (l.take k)) ((l[k]).toNat : Int) := by
  rw [List.take_succ_eq_append_getElem hk, goesR_snoc]
theorem goesR_stuck (b : Int) (l : List UInt8) (k : Nat) (h : ¬ (goesR b (l.take k)).2 = 0) : goesR b l = goesR b (l.take k) := by
  have key : ∀ (l' : List UInt8) (r : Int × Int), ¬ r.2 = 0 → l'.foldl (fun r c => step b r (c.toNat : Int)) r = r := by
    intro l'
    induction l' with
    | nil => intro r _; rfl
    | cons c l' ih => intro r hr; simp only [List.foldl_cons]; rw [step_stay hr]; exact ih r hr
  have e : goesR b l = (l.drop k).foldl (fun r c => step b r (c.toNat : Int)) (goesR b (l.take k)) := by
    unfold goesR
    rw [← List.foldl_append, List.take_append_drop]
  rw [e]
  exact key _ _ h
def ReadRel (b : Int) (l : List UInt8) (i n : Value) : Prop := ∃ k : Nat, k ≤ l.length ∧ i = .int .i64 k ∧ n = .int .u64 (goesR b (l.take k)).1 ∧ (goesR b (l.take k)).2 = 0
def ScanRel (b : Int) (l : List UInt8) (i : Value) : Prop := ∃ k : Nat, k ≤ l.length ∧ i = .int .i64 k ∧ ∀ c ∈ l.take k, isDig b (c.toNat : Int) = true

set_option maxRecDepth 100000 in
set_option maxHeartbeats 1000000 in
theorem read_any (b : Int) (hb : Is64 b) (s : ByteArray) (hm : s.size ≤ 9223372036854775807) (w : World) :
    Calls Tryz.prog 96 #[.string s, .int .u64 b] w fun e w' => e = Two (numR b s.data.toList) ∧ w = w' := by
  have hl : s.data.toList.length = s.size := by simp only [Array.length_toList]; rfl
  cases hs : ((s.size : Int) == 0) with
  | true =>
    have hz := hs
    rw [beq_iff_eq] at hz
    have he : numR b s.data.toList = (0, 110) := if_neg (by rintro ⟨h, _⟩; exact h (List.eq_nil_of_length_eq_zero (by omega)))
    have he' := Lib.hid he
    clear hz he hl
    go_enter Tryz.func96, Tryz.ntmps96
    go_wp2
    go_ret2
    exact ⟨two_of he'.out, rfl⟩
  | false =>
    have hl' := Lib.hid hl
    have hb' := Lib.hid hb
    clear hb hl
    go_enter Tryz.func96, Tryz.ntmps96
    go_wp2
    go_loop [6] (fun i => ScanRel b s.data.toList i) (fun i => s.size - (intOf i).toNat)
    case atStart => exact ⟨0, Nat.zero_le _, rfl, by simp⟩
    case round =>
      obtain ⟨k, hk, rfl, hall⟩ := hrel
      rw [hl'.out] at hk
      have hall' := Lib.hid hall
      clear hall
      by_cases hlt : k < s.size
      · have hy0 : (0 : Int) ≤ (s[k].toNat : Int) := by omega
        have hy1 := byte_lt s[k]
        cases hd : isDig b (s[k].toNat : Int) with
        | true =>
          have hw : worth (s[k].toNat : Int) < b := of_decide_eq_true hd
          have hd' := Lib.hid hd
          clear hd
          go_wp2_with (go_at_call 113; refine (refDigit_any _ _ hy0 hy1).mono ?_; rintro e w' ⟨rfl, rfl⟩)
          refine ⟨⟨k + 1, by rw [hl'.out]; omega, by go_num, ?_⟩, by simp [intOf]; omega⟩
          intro c hc
          rw [List.take_succ_eq_append_getElem (by rw [hl'.out]; exact hlt)] at hc
          rcases List.mem_append.1 hc with hc | hc
          · exact hall'.out c hc
          · rw [List.mem_singleton.1 hc]; exact hd'.out
        | false =>
          have hw : b ≤ worth (s[k].toNat : Int) := by have := of_decide_eq_false hd; omega
          have he : numR b s.data.toList = (0, 110) := if_neg (by
            rintro ⟨_, h⟩
            have := h s[k] (Array.mem_toList_iff.2 (Array.getElem_mem _))
            rw [hd] at this; cases this)
          have he' := Lib.hid he
          clear hd he
          go_wp2_with (go_at_call 113; refine (refDigit_any _ _ hy0 hy1).mono ?_; rintro e w' ⟨rfl, rfl⟩)
          go_ret2
          exact ⟨two_of he'.out, rfl⟩
      · obtain rfl : k = s.size := by omega
        have hnum : Hid (numR b s.data.toList = goesR b s.data.toList) := by
          refine if_pos ⟨?_, ?_⟩
          · intro e
            rw [beq_eq_false_iff_ne] at hs
            have := hl'.out
            rw [e] at this
            simp at this
            omega
          · have := hall'.out
            rwa [List.take_of_length_le (by rw [hl'.out]; omega)] at this
        clear hall'
        go_wp2
        go_loop [7, 8] (fun n i => ReadRel b s.data.toList i n) (fun _ i => s.size - (intOf i).toNat)
        case atStart => exact ⟨0, Nat.zero_le _, rfl, rfl, rfl⟩
        case round =>
          obtain ⟨k, hk, rfl, rfl, hz⟩ := hrel
          rw [hl'.out] at hk
          by_cases hlt : k < s.size
          · have hy0 : (0 : Int) ≤ (s[k].toNat : Int) := by omega
            have hy1 := byte_lt s[k]
            have hg64 : Is64 (goesR b (s.data.toList.take k)).1 := goesR_64 hb'.out _
            have hst : goesR b (s.data.toList.take (k + 1)) = moreR b (goesR b (s.data.toList.take k)).1 (s[k].toNat : Int) := by
              rw [goesR_take b _ (by rw [hl'.out]; exact hlt), step_go hz]
              rfl
            have hstuck := goesR_stuck b s.data.toList (k + 1)
            rw [hst] at hstuck
            generalize (goesR b (s.data.toList.take k)).1 = n at hg64 hst hstuck ⊢
            clear hz
            have hmr : moreR b n (s[k].toNat : Int) = if (mulR n b).2 = 0 then addR (mulR n b).1 (worth (s[k].toNat : Int)) else (0, (mulR n b).2) := rfl
            have hc := fun w => refMul_any n b w hg64 hb'.out
            have hm64 := mulR_64 hg64 hb'.out
            have herr := @err_mul n b
            generalize mulR n b = m at hmr hc hm64 herr
            have hw64 := worth_64 (s[k].toNat : Int)
            have ha := fun w => refAdd_any m.1 (worth (s[k].toNat : Int)) w hm64 hw64
            have herra := @err_add m.1 (worth (s[k].toNat : Int))
            generalize addR m.1 (worth (s[k].toNat : Int)) = a at hmr ha herra
            have hc' := Lib.hid hc
            have ha' := Lib.hid ha
            have hst' := Lib.hid hst
            clear hc ha hst hg64 hm64 hw64
            by_cases hm0 : m.2 = 0
            · have q1 : (m.2 == 0) = true := by rw [beq_iff_eq]; exact hm0
              rw [if_pos hm0] at hmr
              by_cases ha0 : a.2 = 0
              · have q2 : (a.2 != 0) = false := by rw [bne_eq_false_iff_eq]; exact ha0
                have hres : Hid (goesR b (s.data.toList.take (k + 1)) = a) := hst'.out.trans hmr
                have ha0' := Lib.hid ha0
                clear hstuck hmr herr herra hm0 ha0
                go_wp2_with (first | (go_at_call 114; refine (hc'.out _).mono ?_; rintro e w' ⟨rfl, rfl⟩; simp only [Two]) | (go_at_call 113; refine (refDigit_any _ _ hy0 hy1).mono ?_; rintro e w' ⟨rfl, rfl⟩) | (go_at_call 115; refine (ha'.out _).mono ?_; rintro e w' ⟨rfl, rfl⟩; simp only [Two]))
                exact ⟨⟨k + 1, by rw [hl'.out]; omega, by go_num, by rw [hres.out], by rw [hres.out]; exact ha0'.out⟩, by simp [intOf]; omega⟩
              · have q2 : (a.2 != 0) = true := by rw [bne_iff_ne]; exact ha0
                have hres : Hid (numR b s.data.toList = (0, 111)) := by
                  show numR b s.data.toList = (0, 111)
                  rw [hnum.out, hstuck (by rw [hmr]; exact ha0), hmr, herra ha0]
                clear hstuck hmr herr herra hm0 ha0
                go_wp2_with (first | (go_at_call 114; refine (hc'.out _).mono ?_; rintro e w' ⟨rfl, rfl⟩; simp only [Two]) | (go_at_call 113; refine (refDigit_any _ _ hy0 hy1).mono ?_; rintro e w' ⟨rfl, rfl⟩) | (go_at_call 115; refine (ha'.out _).mono ?_; rintro e w' ⟨rfl, rfl⟩; simp only [Two]))
                go_ret2
                exact ⟨two_of hres.out, rfl⟩
            · have q1 : (m.2 == 0) = false := by rw [beq_eq_false_iff_ne]; exact hm0
              have q2 : (m.2 != 0) = true := by rw [bne_iff_ne]; exact hm0
              rw [if_neg hm0] at hmr
              have hres : Hid (numR b s.data.toList = (0, 111)) := by
                show numR b s.data.toList = (0, 111)
                rw [hnum.out, hstuck (by rw [hmr]; exact hm0), hmr, herr hm0]
              clear hstuck hmr herr herra hm0
              go_wp2_with (first | (go_at_call 114; refine (hc'.out _).mono ?_; rintro e w' ⟨rfl, rfl⟩; simp only [Two]))
              go_ret2
              exact ⟨two_of hres.out, rfl⟩
          · obtain rfl : k = s.size := by omega
            have hres : Hid (numR b s.data.toList = ((goesR b s.data.toList).1, 0)) := by
              rw [hnum.out]
              refine Prod.ext rfl ?_
              rwa [List.take_of_length_le (by rw [hl'.out]; omega)] at hz
            have htake : Hid (s.data.toList.take s.size = s.data.toList) := List.take_of_length_le (by rw [hl'.out]; omega)
            clear hz
            rw [htake.out]
            generalize (goesR b s.data.toList).1 = n at hres
            go_wp2
            go_ret2
            exact ⟨two_of hres.out, rfl⟩
section
set_option maxHeartbeats 400000
theorem refDigits_any (s : ByteArray) (hm : s.size ≤ 9223372036854775807) (w : World) :
    Calls Tryz.prog 71 #[.string s] w fun e w' => e = Two (numR 10 s.data.toList) ∧ w = w' := by
  go_enter Tryz.func71, Tryz.ntmps71
  go_wp2_with (go_at_call 96; refine (read_any _ is64_10 s hm _).mono ?_; rintro e w' ⟨rfl, rfl⟩; simp only [Two])
  go_ret2
  exact ⟨two_of rfl, rfl⟩
end
end Go.Proofs.YtlcfpnegpihicaaGreatDoor

namespace Go.Proofs.YtlcfpnegpihicaaGreatDoor
open Go.ChangeShapes Go.WideShapes Go.ChangeAt Go.RowKit

/-! ## The rows' tables -/
theorem gBases : Tryz.prog.globalNamed "bellman/decimal.bases" = some 3 := by kernel_rfl
theorem gBasesType : (Tryz.prog.globals[3]?).map (·.type) = some 229 := by kernel_rfl
theorem cellsBases : Tryz.prog.cellsOf 229 = 2 := by kernel_rfl
theorem cellsU64 : Tryz.prog.cellsOf 38 = 1 := by kernel_rfl
theorem gNames : Tryz.prog.globalNamed "bellman/field.names" = some 5 := by kernel_rfl
theorem gNamesType : (Tryz.prog.globals[5]?).map (·.type) = some 254 := by kernel_rfl
theorem cellsNames : Tryz.prog.cellsOf 254 = 8 := by kernel_rfl
theorem cellsStr : Tryz.prog.cellsOf 9 = 1 := by kernel_rfl
theorem cells_of_strs {H : Type} {enc : TypeId × Value → H} {P : Program} {w : World} {base : Nat} {sp : Nat → Bool} {held : Bool} {fuel : Nat} {t e : TypeId} {n : Nat} {cs : List Value} {ss : List (List UInt8)} {p : List MemPlace}
    (ht : P.underlying t = some (.array n e)) (he : P.underlying e = some .string) (hce : P.cellsOf e = 1) (hct : P.cellsOf t = n)
    (h : DataW.trod enc P w base sp held fuel t cs = some (.agg (ss.map fun s => .lit (.string s)), p)) : cs = ss.map fun s => Value.string ⟨s.toArray⟩ := by
  cases fuel with
  | zero => simp [DataW.trod] at h
  | succ fuel =>
    simp only [DataW.trod, ht, hce, hct, Nat.mul_one] at h
    split at h
    · rename_i hl
      obtain ⟨xs, hm, hx⟩ := Option.map_eq_some_iff.1 h
      have hxs : xs.map (·.1) = ss.map fun s => (DataW.lit (.string s) : DataW H) := by
        have := congrArg Prod.fst hx
        simpa using this
      have hxl : xs.length = n := by simpa using Lib.mapM_length hm
      have hzl : ss.length = n := by
        have := congrArg List.length hxs
        simp at this
        omega
      apply List.ext_getElem?
      intro i
      by_cases hi : i < n
      · obtain ⟨b, hb, hf⟩ := Lib.mapM_at hm i i (by simp [hi])
        obtain ⟨s, hc, rfl, _⟩ := DataW.trod_string he hf
        have h1 : cs[i]? = some (.string s) := by
          have := congrArg (·[0]?) hc
          simpa [List.getElem?_take, List.getElem?_drop] using this
        have h2 : (xs.map (·.1))[i]? = some (DataW.lit (.string s.data.toList) : DataW H) := by simp [hb]
        rw [hxs] at h2
        simp only [List.getElem?_map, Option.map_eq_some_iff, DataW.lit.injEq, Lit.string.injEq] at h2
        obtain ⟨s', hs', e'⟩ := h2
        rw [h1, List.getElem?_map, hs', e']
        simp
      · rw [List.getElem?_eq_none (by omega), List.getElem?_eq_none (by simp; omega)]
    · cases h
theorem names_of {W : World} {rest : List (String × DataW Unit)} (h : laidMet Tryz.prog (("bellman/field.names", Rows.laid_bellman_field_names) :: rest) W) : NamesT W := by
  obtain ⟨ps, ⟨g', t', cs, fuel, p, q, hg', ht', hvar, hd, _, hps⟩, _, hcells⟩ := h
  obtain rfl := Option.some.inj (gNames.symm.trans hg')
  obtain rfl := Option.some.inj (gNamesType.symm.trans ht')
  have hl : cs.toList = namesL.map fun s => Value.string ⟨s.toArray⟩ := cells_of_strs Tryz.underlying254 Tryz.underlying9 cellsStr cellsNames (ss := namesL) hd
  have hlen : cs.size = 8 := by have := congrArg List.length hl; simpa [namesL] using this
  have hrow : MemPlace.cell 5 0 ∈ ps := by
    rw [hps, hlen]
    refine List.mem_append_left _ (List.mem_append_left _ ?_)
    decide
  obtain ⟨⟨c, t, hc⟩, _⟩ := hcells _ _ hrow
  have hcs : c = cs := by
    simp only [World.var?, gNames, Option.bind_some] at hvar
    rw [hc] at hvar
    simpa using hvar
  subst hcs
  refine ⟨t, ?_⟩
  rw [hc, ← hl]
theorem laid_tail1 {P : Program} {n : String} {d : DataW Unit} {rest : List (String × DataW Unit)} {W : World} (h : laidMet P ((n, d) :: rest) W) : laidMet P rest W := by
  obtain ⟨ps, ⟨g, t, cs, fuel, p, q, h1, h2, h3, h4, h5, rfl⟩, hn, hc⟩ := h
  exact ⟨q, h5, (List.nodup_append.1 hn).2.1, fun b off hm => hc b off (List.mem_append_right _ hm)⟩
theorem maxT_of {W : World} (h : W.ShapedOpen Tryz.prog) : MaxT W := by
  have hg : 4 < Tryz.prog.globals.size := of_decide_eq_true (by kernel_rfl)
  have h0 : ((begin Tryz.prog (fun _ _ => 0) default).world.heap[4]?).bind Obj.row? = some (#[.int .i64 0], 3) := by kernel_rfl
  obtain ⟨m, hm⟩ := cell_of_shapedOpen_int (k := .i64) h hg h0 rfl (by kernel_rfl) (by kernel_rfl) Tryz.underlying3
  obtain ⟨cs, hh, hs, _⟩ := h.1 _ _ _ hg h0
  have h1 : cs.size = 1 := hs
  refine ⟨m, ?_⟩
  have hc : cs[0]? = some (.int .i64 m) := by simpa [World.cell?, hh] using hm
  have hcs : cs = #[.int .i64 m] := by
    apply Array.ext
    · simp [h1]
    · intro i h2 h3
      have : i = 0 := by omega
      subst this
      have := (Array.getElem?_eq_some_iff.1 hc).2
      simpa using this
  rw [hcs] at hh
  exact hh
end Go.Proofs.YtlcfpnegpihicaaGreatDoor

namespace Go.Proofs.YtlcfpnegpihicaaGreatDoor

/-! ## Bytes as text: the mathematics -/
/-- In which row of lead bytes a byte stands (9: in none). -/
def kOf (c : Nat) : Nat := if c < 128 then 0 else if c < 194 then 9 else if c < 224 then 1 else if c = 224 then 2 else if c < 237 then 3 else if c = 237 then 4 else if c < 240 then 5 else if c = 240 then 6 else if c < 244 then 7 else if c = 244 then 8 else 9
def moreN (k : Nat) : Nat := if k = 0 then 0 else if k = 1 then 1 else if k < 6 then 2 else 3
def markN (k : Nat) : Nat := if k = 0 then 0 else if k = 1 then 192 else if k < 6 then 224 else 240
/-- The least and the most byte at a place behind a lead byte. -/
def loN (k j : Nat) : Nat := if j = 1 then (if k = 2 then 160 else if k = 6 then 144 else 128) else 128
def hiN (k j : Nat) : Nat := if j = 1 then (if k = 4 then 159 else if k = 8 then 143 else 191) else 191
def inR (k j b : Nat) : Prop := loN k j ≤ b ∧ b ≤ hiN k j
instance (k j b : Nat) : Decidable (inR k j b) := inferInstanceAs (Decidable (_ ∧ _))
theorem inR_cont {k j b : Nat} (h : inR k j b) : 128 ≤ b ∧ b ≤ 191 := by
  unfold inR loN hiN at h
  (repeat' split at h) <;> omega
theorem kOf_le (c : Nat) : kOf c ≤ 9 := by unfold kOf; (repeat' split) <;> omega
theorem moreN_le (k : Nat) : moreN k ≤ 3 := by unfold moreN; (repeat' split) <;> omega
/-- What stands at the beginning of bytes: which point, of how many, and how: 0 whole, 1 broken, 2 cut short. -/
structure Look where
  point : Nat
  size : Nat
  st : Nat
deriving DecidableEq
/-- On from place j, so many bytes being still to come. -/
def goOn (k : Nat) : Nat → Nat → Nat → List UInt8 → Look
  | 0, j, p, _ => ⟨p, j, 0⟩
  | _ + 1, j, _, [] => ⟨65533, j, 2⟩
  | left + 1, j, p, b :: r => if inR k j b.toNat then goOn k left (j + 1) (p * 64 + b.toNat % 64) r else ⟨65533, j, 1⟩
def look : List UInt8 → Look
  | [] => ⟨65533, 1, 1⟩
  | c :: r => if kOf c.toNat = 9 then ⟨65533, 1, 1⟩ else goOn (kOf c.toNat) (moreN (kOf c.toNat)) 1 (c.toNat - markN (kOf c.toNat)) r
def inst : List UInt8 := [239, 191, 189]
/-- The bytes that are told of them. -/
def told (l : List UInt8) : List UInt8 := if (look l).st = 0 then l.take (look l).size else inst

section
theorem goOn_size (k : Nat) : ∀ (left j p : Nat) (r : List UInt8), j ≤ (goOn k left j p r).size ∧ (goOn k left j p r).size ≤ j + left ∧ (goOn k left j p r).size ≤ j + r.length ∧ (goOn k left j p r).st ≤ 2
  | 0, j, p, r => by simp [goOn]
  | left + 1, j, p, [] => by simp [goOn]
  | left + 1, j, p, b :: r => by
    unfold goOn
    split
    · have := goOn_size k left (j + 1) (p * 64 + b.toNat % 64) r
      simp only [List.length_cons]; omega
    · simp
/-- How a reading ends. -/
theorem goOn_end (k : Nat) : ∀ (left j p : Nat) (r : List UInt8) (x : Look), goOn k left j p r = x →
    (∀ i (h : i < r.length), j + i < x.size → inR k (j + i) r[i].toNat) ∧ (x.st = 0 → x.size = j + left) ∧
    (x.st = 1 → x.point = 65533 ∧ x.size < j + left ∧ ∃ h : x.size - j < r.length, ¬ inR k x.size r[x.size - j].toNat) ∧ (x.st = 2 → x.point = 65533 ∧ x.size < j + left ∧ x.size = j + r.length)
  | 0, j, p, r, x, e => by
    simp only [goOn] at e
    subst e
    refine ⟨fun i hi h => ?_, fun _ => rfl, fun h => by simp at h, fun h => by simp at h⟩
    have h' : j + i < j := h
    omega
  | left + 1, j, p, [], x, e => by
    simp only [goOn] at e
    subst e
    refine ⟨fun i hi h => by simp at hi, fun h => by simp at h, fun h => by simp at h, fun _ => ⟨rfl, by simp, by simp⟩⟩
  | left + 1, j, p, b :: r, x, e => by
    simp only [goOn] at e
    split at e
    · rename_i hb
      have hs := goOn_size k left (j + 1) (p * 64 + b.toNat % 64) r
      rw [e] at hs
      obtain ⟨h1, h2, h3, h4⟩ := goOn_end k left (j + 1) (p * 64 + b.toNat % 64) r x e
      clear e
      refine ⟨fun i hi hx => ?_, fun h => by have := h2 h; omega, fun h => ?_, fun h => ?_⟩
      · cases i with
        | zero => simpa using hb
        | succ i => have := h1 i (by simpa using hi) (by omega); rw [show j + (i + 1) = j + 1 + i from by omega]; simpa using this
      · obtain ⟨a, b', c, d⟩ := h3 h
        refine ⟨a, by omega, by simp only [List.length_cons]; omega, ?_⟩
        have e : x.size - j = (x.size - (j + 1)) + 1 := by omega
        simp only [e, List.getElem_cons_succ]
        exact d
      · obtain ⟨a, b', c⟩ := h4 h
        exact ⟨a, by omega, by simp only [List.length_cons]; omega⟩
    · rename_i hb
      subst e
      refine ⟨fun i hi hx => ?_, fun h => by simp at h, fun _ => ⟨rfl, by simp, by simp, ?_⟩, fun h => by simp at h⟩
      · have hx' : j + i < j := hx
        omega
      · simpa using hb
theorem look_size {l : List UInt8} (h : l ≠ []) : 1 ≤ (look l).size ∧ (look l).size ≤ 4 ∧ (look l).size ≤ l.length ∧ (look l).st ≤ 2 := by
  cases l with
  | nil => exact absurd rfl h
  | cons c r =>
    simp only [look]
    split
    · simp
    · have := goOn_size (kOf c.toNat) (moreN (kOf c.toNat)) 1 (c.toNat - markN (kOf c.toNat)) r
      have := moreN_le (kOf c.toNat)
      simp only [List.length_cons]; omega
/-- Cut short: all that is left, three bytes at most. -/
theorem look_short {l : List UInt8} (h : (look l).st = 2) : (look l).size = l.length ∧ l.length ≤ 3 ∧ l ≠ [] := by
  cases l with
  | nil => simp [look] at h
  | cons c r =>
    simp only [look] at h ⊢
    split at h
    · simp at h
    · rename_i hk
      rw [if_neg hk]
      have := (goOn_end (kOf c.toNat) (moreN (kOf c.toNat)) 1 (c.toNat - markN (kOf c.toNat)) r _ rfl).2.2.2 h
      have := moreN_le (kOf c.toNat)
      simp only [List.length_cons]
      exact ⟨by omega, by omega, by simp⟩
/-- More bytes behind turn nothing where it is not cut short. -/
theorem goOn_append (k : Nat) (y : List UInt8) : ∀ (left j p : Nat) (r : List UInt8), (goOn k left j p r).st ≠ 2 → goOn k left j p (r ++ y) = goOn k left j p r
  | 0, j, p, r => by simp [goOn]
  | left + 1, j, p, [] => by simp [goOn]
  | left + 1, j, p, b :: r => by
    simp only [goOn, List.cons_append]
    split
    · exact goOn_append k y left _ _ r
    · simp
theorem look_append {l : List UInt8} (y : List UInt8) (h0 : l ≠ []) (h : (look l).st ≠ 2) : look (l ++ y) = look l := by
  cases l with
  | nil => exact absurd rfl h0
  | cons c r =>
    simp only [look, List.cons_append] at h ⊢
    split
    · rfl
    · rename_i hk
      rw [if_neg hk] at h
      exact goOn_append _ y _ _ _ r h
theorem look_inst (y : List UInt8) : look (inst ++ y) = ⟨65533, 3, 0⟩ := by
  simp only [inst, List.cons_append, List.nil_append]
  rw [look, if_neg (by decide)]
  show goOn 5 (0 + 1 + 1) 1 15 (191 :: 189 :: y) = _
  rw [goOn, if_pos (by decide), goOn, if_pos (by decide), goOn]
  rfl
end

/-! ## Made sound -/
def ofF : Nat → List UInt8 → List UInt8
  | 0, _ => []
  | _ + 1, [] => []
  | f + 1, c :: r => told (c :: r) ++ ofF f ((c :: r).drop (look (c :: r)).size)
def ofB (l : List UInt8) : List UInt8 := ofF l.length l
theorem ofF_more : ∀ (f : Nat) (l : List UInt8), l.length ≤ f → ofF f l = ofB l := by
  have key : ∀ (n f g : Nat) (l : List UInt8), l.length ≤ n → l.length ≤ f → l.length ≤ g → ofF f l = ofF g l := by
    intro n
    induction n with
    | zero =>
      intro f g l hn hf hg
      obtain rfl : l = [] := List.eq_nil_of_length_eq_zero (by omega)
      cases f <;> cases g <;> rfl
    | succ n ih =>
      intro f g l hn hf hg
      cases l with
      | nil => cases f <;> cases g <;> rfl
      | cons c r =>
        simp only [List.length_cons] at hn hf hg
        obtain ⟨f, rfl⟩ : ∃ f', f = f' + 1 := ⟨f - 1, by omega⟩
        obtain ⟨g, rfl⟩ : ∃ g', g = g' + 1 := ⟨g - 1, by omega⟩
        have hs := look_size (l := c :: r) (by simp)
        have hd : ((c :: r).drop (look (c :: r)).size).length ≤ r.length := by rw [List.length_drop, List.length_cons]; omega
        rw [ofF, ofF, ih f g _ (by omega) (by omega) (by omega)]
  exact fun f l h => key l.length f l.length l (Nat.le_refl _) h (Nat.le_refl _)
theorem ofB_nil : ofB [] = [] := rfl
theorem ofB_step {l : List UInt8} (h : l ≠ []) : ofB l = told l ++ ofB (l.drop (look l).size) := by
  cases l with
  | nil => exact absurd rfl h
  | cons c r =>
    have hs := look_size (l := c :: r) (by simp)
    rw [ofB, List.length_cons, ofF, ofF_more r.length _ (by rw [List.length_drop, List.length_cons]; omega)]
/-- Induction along what is told. -/
theorem along {P : List UInt8 → Prop} (h0 : P []) (h1 : ∀ l, l ≠ [] → P (l.drop (look l).size) → P l) (l : List UInt8) : P l := by
  have key : ∀ (n : Nat) (l : List UInt8), l.length ≤ n → P l := by
    intro n
    induction n with
    | zero =>
      intro l hl
      obtain rfl : l = [] := List.eq_nil_of_length_eq_zero (by omega)
      exact h0
    | succ n ih =>
      intro l hl
      by_cases h : l = []
      · rw [h]; exact h0
      · have hs := look_size h
        exact h1 l h (ih (l.drop (look l).size) (by rw [List.length_drop]; omega))
  exact key l.length l (Nat.le_refl _)
theorem told_self {l : List UInt8} (h : (look l).st = 0) : told l ++ l.drop (look l).size = l := by rw [told, if_pos h, List.take_append_drop]
/-- Sound: as it is told. -/
def SoundL (l : List UInt8) : Prop := ofB l = l
theorem sound_nil : SoundL [] := rfl
theorem sound_look {l : List UInt8} (h0 : l ≠ []) : SoundL l ↔ (look l).st = 0 ∧ SoundL (l.drop (look l).size) := by
  unfold SoundL
  constructor
  · intro h
    have hst : (look l).st = 0 := by
      refine Decidable.byContradiction fun hn => ?_
      have e := ofB_step h0
      rw [h, told, if_neg hn] at e
      have := look_inst (ofB (l.drop (look l).size))
      rw [← e] at this
      exact hn (by rw [this])
    refine ⟨hst, ?_⟩
    have e := ofB_step h0
    rw [h] at e
    have e2 := told_self hst
    exact List.append_cancel_left (e.symm.trans e2.symm)
  · rintro ⟨h1, h2⟩
    rw [ofB_step h0, h2, told_self h1]
/-! ## Piece by piece -/
/-- What is told of bytes, and which ones wait. -/
def runF : Nat → List UInt8 → List UInt8 × List UInt8
  | 0, l => ([], l)
  | _ + 1, [] => ([], [])
  | f + 1, c :: r => if (look (c :: r)).st = 2 then ([], c :: r) else (told (c :: r) ++ (runF f ((c :: r).drop (look (c :: r)).size)).1, (runF f ((c :: r).drop (look (c :: r)).size)).2)
def run4 (l : List UInt8) : List UInt8 × List UInt8 := runF l.length l
theorem runF_more : ∀ (f : Nat) (l : List UInt8), l.length ≤ f → runF f l = run4 l := by
  have key : ∀ (n f g : Nat) (l : List UInt8), l.length ≤ n → l.length ≤ f → l.length ≤ g → runF f l = runF g l := by
    intro n
    induction n with
    | zero =>
      intro f g l hn hf hg
      obtain rfl : l = [] := List.eq_nil_of_length_eq_zero (by omega)
      cases f <;> cases g <;> rfl
    | succ n ih =>
      intro f g l hn hf hg
      cases l with
      | nil => cases f <;> cases g <;> rfl
      | cons c r =>
        simp only [List.length_cons] at hn hf hg
        obtain ⟨f, rfl⟩ : ∃ f', f = f' + 1 := ⟨f - 1, by omega⟩
        obtain ⟨g, rfl⟩ : ∃ g', g = g' + 1 := ⟨g - 1, by omega⟩
        have hs := look_size (l := c :: r) (by simp)
        have hd : ((c :: r).drop (look (c :: r)).size).length ≤ r.length := by rw [List.length_drop, List.length_cons]; omega
        rw [runF, runF, ih f g _ (by omega) (by omega) (by omega)]
  exact fun f l h => key l.length f l.length l (Nat.le_refl _) h (Nat.le_refl _)
theorem run4_nil : run4 [] = ([], []) := rfl
theorem run4_short {l : List UInt8} (h : (look l).st = 2) : run4 l = ([], l) := by
  cases l with
  | nil => rfl
  | cons c r => rw [run4, List.length_cons, runF, if_pos h]
theorem run4_step {l : List UInt8} (h0 : l ≠ []) (h : (look l).st ≠ 2) : run4 l = (told l ++ (run4 (l.drop (look l).size)).1, (run4 (l.drop (look l).size)).2) := by
  cases l with
  | nil => exact absurd rfl h0
  | cons c r =>
    have hs := look_size (l := c :: r) (by simp)
    rw [run4, List.length_cons, runF, if_neg h, runF_more r.length _ (by rw [List.length_drop, List.length_cons]; omega)]
theorem of_run (l : List UInt8) : ofB l = (run4 l).1 ++ (if (run4 l).2 = [] then [] else inst) := by
  refine along (P := fun l => ofB l = (run4 l).1 ++ (if (run4 l).2 = [] then [] else inst)) rfl (fun l h ih => ?_) l
  by_cases h2 : (look l).st = 2
  · rw [run4_short h2, ofB_step h, if_neg h, (look_short h2).1, List.drop_length, told, if_neg (by rw [h2]; decide), ofB_nil]
    simp
  · rw [run4_step h h2, ofB_step h, ih]
    simp
theorem run_wait (l : List UInt8) : (run4 l).2 = [] ∨ (look (run4 l).2).st = 2 := by
  refine along (P := fun l => (run4 l).2 = [] ∨ (look (run4 l).2).st = 2) (.inl rfl) (fun l h ih => ?_) l
  by_cases h2 : (look l).st = 2
  · rw [run4_short h2]; exact .inr h2
  · rw [run4_step h h2]; exact ih
theorem run_three (l : List UInt8) : (run4 l).2.length ≤ 3 := by
  rcases run_wait l with h | h
  · rw [h]; simp
  · exact (look_short h).2.1

/-! ## Places -/
def lookAt (l : List UInt8) (p : Nat) : Look := look (l.drop p)
def toldAt (l : List UInt8) (p : Nat) : List UInt8 := told (l.drop p)
def placesF (l : List UInt8) : Nat → Nat → List Nat
  | 0, _ => []
  | f + 1, p => if p < l.length then p :: placesF l f (p + (lookAt l p).size) else []
def placesFrom (l : List UInt8) (p : Nat) : List Nat := placesF l (l.length - p) p
theorem drop_ne {l : List UInt8} {p : Nat} (h : p < l.length) : l.drop p ≠ [] := by
  intro e; have := congrArg List.length e; rw [List.length_drop] at this; simp at this; omega
theorem placesF_more (l : List UInt8) : ∀ (f g p : Nat), l.length - p ≤ f → l.length - p ≤ g → placesF l f p = placesF l g p
  | 0, g, p, hf, hg => by
    cases g with
    | zero => rfl
    | succ g => simp only [placesF]; rw [if_neg (by omega)]
  | f + 1, 0, p, hf, hg => by simp only [placesF]; rw [if_neg (by omega)]
  | f + 1, g + 1, p, hf, hg => by
    simp only [placesF]
    split
    · rename_i h
      have hs := (look_size (drop_ne h)).1
      have hs : 1 ≤ (lookAt l p).size := hs
      rw [placesF_more l f g _ (by omega) (by omega)]
    · rfl
theorem places_end {l : List UInt8} {p : Nat} (h : l.length ≤ p) : placesFrom l p = [] := by unfold placesFrom; rw [show l.length - p = 0 from by omega]; rfl
theorem places_step {l : List UInt8} {p : Nat} (h : p < l.length) : placesFrom l p = p :: placesFrom l (p + (lookAt l p).size) := by
  have hs : 1 ≤ (lookAt l p).size := (look_size (drop_ne h)).1
  unfold placesFrom
  obtain ⟨f, hf⟩ : ∃ f, l.length - p = f + 1 := ⟨l.length - p - 1, by omega⟩
  rw [hf, placesF, if_pos h, placesF_more l f (l.length - (p + (lookAt l p).size)) _ (by omega) (by omega)]
def conc (l : List UInt8) (ps : List Nat) : List UInt8 := ps.flatMap (toldAt l)
theorem conc_snoc (l : List UInt8) (ps : List Nat) (p : Nat) : conc l (ps ++ [p]) = conc l ps ++ toldAt l p := by simp [conc]
theorem drop_look (l : List UInt8) (p : Nat) : (l.drop p).drop (lookAt l p).size = l.drop (p + (lookAt l p).size) := by rw [List.drop_drop]
theorem lookAt_le {l : List UInt8} {p : Nat} (h : p < l.length) : p + (lookAt l p).size ≤ l.length ∧ 1 ≤ (lookAt l p).size := by
  have := look_size (drop_ne h)
  rw [List.length_drop] at this
  unfold lookAt
  omega
theorem conc_of (l : List UInt8) : ∀ (n p : Nat), l.length - p ≤ n → conc l (placesFrom l p) = ofB (l.drop p) := by
  intro n
  induction n with
  | zero => intro p hp; rw [places_end (by omega), List.drop_of_length_le (by omega)]; rfl
  | succ n ih =>
    intro p hp
    by_cases h : p < l.length
    · have hl := lookAt_le h
      rw [places_step h, ofB_step (drop_ne h)]
      show toldAt l p ++ conc l (placesFrom l (p + (lookAt l p).size)) = told (l.drop p) ++ ofB ((l.drop p).drop (lookAt l p).size)
      rw [ih _ (by omega), drop_look]; rfl
    · rw [places_end (by omega), List.drop_of_length_le (by omega)]; rfl
theorem conc_places (l : List UInt8) : conc l (placesFrom l 0) = ofB l := by have := conc_of l l.length 0 (by omega); simpa using this
theorem sound_places (l : List UInt8) : SoundL l ↔ ∀ p ∈ placesFrom l 0, (lookAt l p).st = 0 := by
  have key : ∀ (n p : Nat), l.length - p ≤ n → (SoundL (l.drop p) ↔ ∀ q ∈ placesFrom l p, (lookAt l q).st = 0) := by
    intro n
    induction n with
    | zero => intro p hp; rw [places_end (by omega), List.drop_of_length_le (by omega)]; simp [SoundL, ofB_nil]
    | succ n ih =>
      intro p hp
      by_cases h : p < l.length
      · have hl := lookAt_le h
        rw [places_step h, sound_look (drop_ne h)]
        have e : (l.drop p).drop (look (l.drop p)).size = l.drop (p + (lookAt l p).size) := drop_look l p
        rw [e, ih _ (by omega)]
        simp [lookAt]
      · rw [places_end (by omega), List.drop_of_length_le (by omega)]; simp [SoundL, ofB_nil]
  have := key l.length 0 (by omega)
  simpa using this
theorem run_places_all (l : List UInt8) : ∀ (n p : Nat), l.length - p ≤ n → (∀ q ∈ placesFrom l p, (lookAt l q).st ≠ 2) → run4 (l.drop p) = (conc l (placesFrom l p), []) := by
  intro n
  induction n with
  | zero => intro p hp _; rw [places_end (by omega), List.drop_of_length_le (by omega)]; rfl
  | succ n ih =>
    intro p hp hq
    by_cases h : p < l.length
    · have hl := lookAt_le h
      rw [places_step h] at hq ⊢
      rw [run4_step (drop_ne h) (hq p (by simp))]
      have e : (l.drop p).drop (look (l.drop p)).size = l.drop (p + (lookAt l p).size) := drop_look l p
      rw [e, ih _ (by omega) (fun q hq' => hq q (by simp [hq']))]
      rfl
    · rw [places_end (by omega), List.drop_of_length_le (by omega)]; rfl
theorem run_places_cut (l : List UInt8) : ∀ (pre : List Nat) (p x : Nat) (rest : List Nat), placesFrom l p = pre ++ x :: rest → (∀ q ∈ pre, (lookAt l q).st ≠ 2) → (lookAt l x).st = 2 → run4 (l.drop p) = (conc l pre, l.drop x) := by
  intro pre
  induction pre with
  | nil =>
    intro p x rest he _ hx
    by_cases h : p < l.length
    · rw [places_step h] at he
      injection he with he _
      subst he
      exact run4_short hx
    · rw [places_end (by omega)] at he; cases he
  | cons q pre ih =>
    intro p x rest he hq hx
    by_cases h : p < l.length
    · rw [places_step h] at he
      injection he with he he2
      subst he
      rw [run4_step (drop_ne h) (hq p (by simp))]
      have e : (l.drop p).drop (look (l.drop p)).size = l.drop (p + (lookAt l p).size) := drop_look l p
      rw [e, ih _ x rest he2 (fun q hq' => hq q (by simp [hq'])) hx]
      rfl
    · rw [places_end (by omega)] at he; cases he
end Go.Proofs.YtlcfpnegpihicaaGreatDoor
