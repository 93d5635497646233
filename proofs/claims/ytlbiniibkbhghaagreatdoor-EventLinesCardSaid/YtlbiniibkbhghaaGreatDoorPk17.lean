import Derived.Test.YtlbiniibkbhghaaGreatDoorPk16
namespace Go.Proofs.YtlbiniibkbhghaaGreatDoor
open Go.RowKit

/-! ## The document's Begins, walked -/
def BeginsOf (x : List UInt8) (w : World) (e : Ending) (w' : World) : Prop :=
  ∃ mv : Int, e = .returned (.tuple #[.int .i64 mv, .bool (beginsOk x)]) ∧ (beginsOk x = true → mv = manyN (at0 x 0)) ∧ Below w.heap.size w w'
theorem span_no {ad : Addr} {x : List UInt8} {n c : Nat} {w : World} (h : Calls Tryz.prog 108 #[.slice (some ad) n c] w (SpanOf x w)) (hs : spanOk x = false) :
    Calls Tryz.prog 108 #[.slice (some ad) n c] w fun e w' => e = .returned (.tuple #[.int .i64 0, .int .i64 0, .int .i64 0, .bool false]) ∧ Below w.heap.size w w' := by
  refine h.mono ?_
  rintro e w' ⟨rfl, hb⟩
  rw [hs]
  exact ⟨rfl, hb⟩
theorem span_yes {ad : Addr} {x : List UInt8} {n c : Nat} {w : World} (h : Calls Tryz.prog 108 #[.slice (some ad) n c] w (SpanOf x w)) (hs : spanOk x = true) :
    Calls Tryz.prog 108 #[.slice (some ad) n c] w fun e w' => e = .returned (.tuple #[.int .i64 (manyN (at0 x 0)), .int .i64 (lowN x (manyN (at0 x 0) - 1)), .int .i64 (topN x (manyN (at0 x 0) - 1)), .bool true]) ∧ Below w.heap.size w w' := by
  refine h.mono ?_
  rintro e w' ⟨rfl, hb⟩
  rw [hs]
  exact ⟨rfl, hb⟩
set_option maxRecDepth 100000 in
theorem begins_no (ad : Addr) (x : List UInt8) (n c : Nat) (w : World) (h : Rd w (· < w.heap.size) (some ad) x) (hn : n = x.length) (h1 : 1 ≤ x.length) (hc : n ≤ c) (hc' : c ≤ 9223372036854775807) (hs : spanOk x = false) :
    Calls Tryz.prog 107 #[.slice (some ad) n c] w (BeginsOf x w) := by
  have hsp := Lib.hid (span_no (span_any ad x n c w h hn h1 hc hc') hs)
  have hb : beginsOk x = false := by rw [beginsOk_eq, hs]; simp
  have hb' := Lib.hid hb
  clear h hn h1 hb hs
  go_enter Tryz.func107, Tryz.ntmps107
  go_wp2_with (go_at_call 108; refine hsp.out.mono ?_; rintro e w2 ⟨rfl, hb2⟩)
  go_ret2
  exact ⟨0, by rw [hb'.out]; rfl, fun h => by (rw [hb'.out] at h; cases h), hb2⟩
set_option maxRecDepth 100000 in
theorem begins_long (ad : Addr) (x : List UInt8) (n c : Nat) (w : World) (h : Rd w (· < w.heap.size) (some ad) x) (hn : n = x.length) (h1 : 1 ≤ x.length) (hc : n ≤ c) (hc' : c ≤ 9223372036854775807) (hs : spanOk x = true) (hl : manyN (at0 x 0) < x.length) :
    Calls Tryz.prog 107 #[.slice (some ad) n c] w (BeginsOf x w) := by
  have hsp := Lib.hid (span_yes (span_any ad x n c w h hn h1 hc hc') hs)
  have hb' := Lib.hid (bo_long hl)
  have g : ((manyN (at0 x 0) : Nat) : Int) < (n : Int) := by omega
  clear h hn h1 hs hl
  generalize ((manyN (at0 x 0) : Nat) : Int) = m at hsp g
  generalize ((lowN x (manyN (at0 x 0) - 1) : Nat) : Int) = lo at hsp
  generalize ((topN x (manyN (at0 x 0) - 1) : Nat) : Int) = tq at hsp
  go_enter Tryz.func107, Tryz.ntmps107
  go_wp2_with (go_at_call 108; refine hsp.out.mono ?_; rintro e w2 ⟨rfl, hb2⟩)
  go_ret2
  exact ⟨0, by rw [hb'.out]; rfl, fun h => by (rw [hb'.out] at h; cases h), hb2⟩
set_option maxRecDepth 100000 in
theorem begins_1 (ad : Addr) (x : List UInt8) (n c : Nat) (w : World) (h : Rd w (· < w.heap.size) (some ad) x) (hn : n = x.length) (h1 : 1 ≤ x.length) (hc : n ≤ c) (hc' : c ≤ 9223372036854775807) (hs : spanOk x = true) (hl : x.length ≤ manyN (at0 x 0)) (hm : manyN (at0 x 0) = 1) :
    Calls Tryz.prog 107 #[.slice (some ad) n c] w (BeginsOf x w) := by
  have hsp := Lib.hid (span_yes (span_any ad x n c w h hn h1 hc hc') hs)
  have hb : beginsOk x = testN 1 (lowN x 0) (topN x 0) := by rw [beginsOk_eq, hs, decide_eq_true hl, hm]; rfl
  have hb' := Lib.hid hb
  have g : (n : Int) ≤ 1 := by omega
  rw [hm] at hsp
  have hm' := Lib.hid hm
  have hlo := low_lt3 x (i := 0) (by omega)
  clear h hn h1 hs hl hb hm
  generalize hl0 : lowN x 0 = l0 at hlo hb'
  generalize ht0 : topN x 0 = t0 at hlo hb'
  obtain ⟨lo, hlo1⟩ : ∃ lo : Int, lo = l0 := ⟨_, rfl⟩
  obtain ⟨tq, hto1⟩ : ∃ tq : Int, tq = t0 := ⟨_, rfl⟩
  have hsp' : Hid (Calls Tryz.prog 108 #[.slice (some ad) n c] w fun e w' => e = .returned (.tuple #[.int .i64 1, .int .i64 lo, .int .i64 tq, .bool true]) ∧ Below w.heap.size w w') := by rw [hlo1, hto1, ← hl0, ← ht0]; exact hsp
  have hlo2 := Lib.hid hlo1
  have hto2 := Lib.hid hto1
  clear hsp hl0 ht0 hlo1 hto1
  go_enter Tryz.func107, Tryz.ntmps107
  go_wp2_with (go_at_call 108; refine hsp'.out.mono ?_; rintro e w2 ⟨rfl, hb2⟩)
  all_goals
    go_ret2
    refine ⟨1, congrArg (fun b : Bool => Ending.returned (.tuple #[.int .i64 1, .bool b])) ?_, fun _ => by rw [hm'.out]; rfl, hb2.alloc hb2.size _⟩
    rw [hb'.out, test1]
    have q1 := hlo2.out
    have q2 := hto2.out
    first | exact decide_eq_decide.2 (by omega) | exact (decide_eq_true (by omega)).symm | exact (decide_eq_false (by omega)).symm
set_option maxRecDepth 100000 in
theorem begins_2 (ad : Addr) (x : List UInt8) (n c : Nat) (w : World) (h : Rd w (· < w.heap.size) (some ad) x) (hn : n = x.length) (h1 : 1 ≤ x.length) (hc : n ≤ c) (hc' : c ≤ 9223372036854775807) (hs : spanOk x = true) (hl : x.length ≤ manyN (at0 x 0)) (hm : manyN (at0 x 0) = 2) :
    Calls Tryz.prog 107 #[.slice (some ad) n c] w (BeginsOf x w) := by
  have hsp := Lib.hid (span_yes (span_any ad x n c w h hn h1 hc hc') hs)
  have hb : beginsOk x = testN 2 (lowN x 1) (topN x 1) := by rw [beginsOk_eq, hs, decide_eq_true hl, hm]; rfl
  have hb' := Lib.hid hb
  have g : (n : Int) ≤ 2 := by omega
  rw [hm] at hsp
  have hm' := Lib.hid hm
  have hlo := low_lt3 x (i := 1) (by omega)
  clear h hn h1 hs hl hb hm
  generalize hl0 : lowN x 1 = l0 at hlo hb'
  generalize ht0 : topN x 1 = t0 at hlo hb'
  obtain ⟨lo, hlo1⟩ : ∃ lo : Int, lo = l0 := ⟨_, rfl⟩
  obtain ⟨tq, hto1⟩ : ∃ tq : Int, tq = t0 := ⟨_, rfl⟩
  have hsp' : Hid (Calls Tryz.prog 108 #[.slice (some ad) n c] w fun e w' => e = .returned (.tuple #[.int .i64 2, .int .i64 lo, .int .i64 tq, .bool true]) ∧ Below w.heap.size w w') := by rw [hlo1, hto1, ← hl0, ← ht0]; exact hsp
  have hlo2 := Lib.hid hlo1
  have hto2 := Lib.hid hto1
  clear hsp hl0 ht0 hlo1 hto1
  go_enter Tryz.func107, Tryz.ntmps107
  go_wp2_with (go_at_call 108; refine hsp'.out.mono ?_; rintro e w2 ⟨rfl, hb2⟩)
  all_goals
    go_ret2
    refine ⟨2, congrArg (fun b : Bool => Ending.returned (.tuple #[.int .i64 2, .bool b])) ?_, fun _ => by rw [hm'.out]; rfl, hb2.alloc hb2.size _⟩
    rw [hb'.out, test2]
    have q1 := hlo2.out
    have q2 := hto2.out
    first | exact decide_eq_decide.2 (by omega) | exact (decide_eq_true (by omega)).symm | exact (decide_eq_false (by omega)).symm
set_option maxRecDepth 100000 in
theorem begins_4 (ad : Addr) (x : List UInt8) (n c : Nat) (w : World) (h : Rd w (· < w.heap.size) (some ad) x) (hn : n = x.length) (h1 : 1 ≤ x.length) (hc : n ≤ c) (hc' : c ≤ 9223372036854775807) (hs : spanOk x = true) (hl : x.length ≤ manyN (at0 x 0)) (hm : manyN (at0 x 0) = 4) :
    Calls Tryz.prog 107 #[.slice (some ad) n c] w (BeginsOf x w) := by
  have hsp := Lib.hid (span_yes (span_any ad x n c w h hn h1 hc hc') hs)
  have hb : beginsOk x = testN 4 (lowN x 3) (topN x 3) := by rw [beginsOk_eq, hs, decide_eq_true hl, hm]; rfl
  have hb' := Lib.hid hb
  have g : (n : Int) ≤ 4 := by omega
  rw [hm] at hsp
  have hm' := Lib.hid hm
  have hlo := low_lt3 x (i := 3) (by omega)
  clear h hn h1 hs hl hb hm
  generalize hl0 : lowN x 3 = l0 at hlo hb'
  generalize ht0 : topN x 3 = t0 at hlo hb'
  obtain ⟨lo, hlo1⟩ : ∃ lo : Int, lo = l0 := ⟨_, rfl⟩
  obtain ⟨tq, hto1⟩ : ∃ tq : Int, tq = t0 := ⟨_, rfl⟩
  have hsp' : Hid (Calls Tryz.prog 108 #[.slice (some ad) n c] w fun e w' => e = .returned (.tuple #[.int .i64 4, .int .i64 lo, .int .i64 tq, .bool true]) ∧ Below w.heap.size w w') := by rw [hlo1, hto1, ← hl0, ← ht0]; exact hsp
  have hlo2 := Lib.hid hlo1
  have hto2 := Lib.hid hto1
  clear hsp hl0 ht0 hlo1 hto1
  go_enter Tryz.func107, Tryz.ntmps107
  go_wp2_with (go_at_call 108; refine hsp'.out.mono ?_; rintro e w2 ⟨rfl, hb2⟩)
  all_goals
    go_ret2
    refine ⟨4, congrArg (fun b : Bool => Ending.returned (.tuple #[.int .i64 4, .bool b])) ?_, fun _ => by rw [hm'.out]; rfl, hb2.alloc hb2.size _⟩
    rw [hb'.out, test4]
    have q1 := hlo2.out
    have q2 := hto2.out
    first | exact decide_eq_decide.2 (by omega) | exact (decide_eq_true (by omega)).symm | exact (decide_eq_false (by omega)).symm
set_option maxRecDepth 100000 in
theorem begins_3 (ad : Addr) (x : List UInt8) (n c : Nat) (w : World) (h : Rd w (· < w.heap.size) (some ad) x) (hn : n = x.length) (h1 : 1 ≤ x.length) (hc : n ≤ c) (hc' : c ≤ 9223372036854775807) (hs : spanOk x = true) (hl : x.length ≤ manyN (at0 x 0)) (hm : manyN (at0 x 0) = 3) :
    Calls Tryz.prog 107 #[.slice (some ad) n c] w (BeginsOf x w) := by
  have hsp := Lib.hid (span_yes (span_any ad x n c w h hn h1 hc hc') hs)
  have hb : beginsOk x = testN 3 (lowN x 2) (topN x 2) := by rw [beginsOk_eq, hs, decide_eq_true hl, hm]; rfl
  have hb' := Lib.hid hb
  have g : (n : Int) ≤ 3 := by omega
  rw [hm] at hsp
  have hm' := Lib.hid hm
  have hlo := low_lt3 x (i := 2) (by omega)
  clear h hn h1 hs hl hb hm
  generalize hl0 : lowN x 2 = l0 at hlo hb'
  generalize ht0 : topN x 2 = t0 at hlo hb'
  obtain ⟨lo, hlo1⟩ : ∃ lo : Int, lo = l0 := ⟨_, rfl⟩
  obtain ⟨tq, hto1⟩ : ∃ tq : Int, tq = t0 := ⟨_, rfl⟩
  have hsp' : Hid (Calls Tryz.prog 108 #[.slice (some ad) n c] w fun e w' => e = .returned (.tuple #[.int .i64 3, .int .i64 lo, .int .i64 tq, .bool true]) ∧ Below w.heap.size w w') := by rw [hlo1, hto1, ← hl0, ← ht0]; exact hsp
  have hlo2 := Lib.hid hlo1
  have hto2 := Lib.hid hto1
  clear hsp hl0 ht0 hlo1 hto1
  go_enter Tryz.func107, Tryz.ntmps107
  go_wp2_with (go_at_call 108; refine hsp'.out.mono ?_; rintro e w2 ⟨rfl, hb2⟩)
  all_goals
    go_ret2
    have q1 := hlo2.out
    have q2 := hto2.out
    first
    | (refine ⟨3, congrArg (fun b : Bool => Ending.returned (.tuple #[.int .i64 3, .bool b])) ?_, fun _ => by rw [hm'.out]; rfl, hb2.alloc hb2.size _⟩
       rw [hb'.out, test3]
       first | exact decide_eq_decide.2 (by omega) | exact (decide_eq_true (by omega)).symm | exact (decide_eq_false (by omega)).symm)
    | (have hf : beginsOk x = false := by
         rw [hb'.out, test3]
         exact decide_eq_false (by omega)
       exact ⟨0, by rw [hf]; rfl, fun h => (by rw [hf] at h; cases h), hb2.alloc hb2.size _⟩)
theorem begins_any (ad : Addr) (x : List UInt8) (n c : Nat) (w : World) (h : Rd w (· < w.heap.size) (some ad) x) (hn : n = x.length) (h1 : 1 ≤ x.length) (hc : n ≤ c) (hc' : c ≤ 9223372036854775807) :
    Calls Tryz.prog 107 #[.slice (some ad) n c] w (BeginsOf x w) := by
  cases hs : spanOk x with
  | false => exact begins_no ad x n c w h hn h1 hc hc' hs
  | true =>
    rcases Nat.lt_or_ge (manyN (at0 x 0)) x.length with hl | hl
    · exact begins_long ad x n c w h hn h1 hc hc' hs hl
    · rcases many_le (at0 x 0) with m | m | m | m | m
      · exact absurd hl (by omega)
      · exact begins_1 ad x n c w h hn h1 hc hc' hs hl m
      · exact begins_2 ad x n c w h hn h1 hc hc' hs hl m
      · exact begins_3 ad x n c w h hn h1 hc hc' hs hl m
      · exact begins_4 ad x n c w h hn h1 hc hc' hs hl m
end Go.Proofs.YtlbiniibkbhghaaGreatDoor
