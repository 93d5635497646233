import Derived.Test.YtlcfpnegpihicaaGreatDoorPw11
import Derived.Test.YtlcfpnegpihicaaGreatDoorPw4
import Derived.Test.YtlcfpnegpihicaaGreatDoorPw5
import Derived.Test.YtlcfpnegpihicaaGreatDoorPw6
import Derived.Laws.AppendOwn
namespace Go.Proofs.YtlcfpnegpihicaaGreatDoor
open Go.RowKit

/-! ## The document's Begins, walked -/
def BeginsOf (x : List UInt8) (w : World) (e : Ending) (w' : World) : Prop :=
  ∃ mv : Int, e = .returned (.tuple #[.int .i64 mv, .bool (beginsOk x)]) ∧ (beginsOk x = true → mv = manyN (at0 x 0)) ∧ Below w.heap.size w w'
theorem span_no {ad : Addr} {x : List UInt8} {n c : Nat} {w : World} (h : Calls Tryz.prog 94 #[.slice (some ad) n c] w (SpanOf x w)) (hs : spanOk x = false) :
    Calls Tryz.prog 94 #[.slice (some ad) n c] w fun e w' => e = .returned (.tuple #[.int .i64 0, .int .i64 0, .int .i64 0, .bool false]) ∧ Below w.heap.size w w' := by
  refine h.mono ?_
  rintro e w' ⟨rfl, hb⟩
  rw [hs]
  exact ⟨rfl, hb⟩
theorem span_yes {ad : Addr} {x : List UInt8} {n c : Nat} {w : World} (h : Calls Tryz.prog 94 #[.slice (some ad) n c] w (SpanOf x w)) (hs : spanOk x = true) :
    Calls Tryz.prog 94 #[.slice (some ad) n c] w fun e w' => e = .returned (.tuple #[.int .i64 (manyN (at0 x 0)), .int .i64 (lowN x (manyN (at0 x 0) - 1)), .int .i64 (topN x (manyN (at0 x 0) - 1)), .bool true]) ∧ Below w.heap.size w w' := by
  refine h.mono ?_
  rintro e w' ⟨rfl, hb⟩
  rw [hs]
  exact ⟨rfl, hb⟩
set_option maxRecDepth 100000 in
theorem begins_no (ad : Addr) (x : List UInt8) (n c : Nat) (w : World) (h : Rd w (· < w.heap.size) (some ad) x) (hn : n = x.length) (h1 : 1 ≤ x.length) (hc : n ≤ c) (hc' : c ≤ 9223372036854775807) (hs : spanOk x = false) :
    Calls Tryz.prog 93 #[.slice (some ad) n c] w (BeginsOf x w) := by
  have hsp := Lib.hid (span_no (span_any ad x n c w h hn h1 hc hc') hs)
  have hb : beginsOk x = false := by rw [beginsOk_eq, hs]; simp
  have hb' := Lib.hid hb
  clear h hn h1 hb hs
  go_enter Tryz.func93, Tryz.ntmps93
  go_wp2_with (go_at_call 94; refine hsp.out.mono ?_; rintro e w2 ⟨rfl, hb2⟩)
  go_ret2
  exact ⟨0, by rw [hb'.out]; rfl, fun h => by (rw [hb'.out] at h; cases h), hb2⟩
set_option maxRecDepth 100000 in
theorem begins_long (ad : Addr) (x : List UInt8) (n c : Nat) (w : World) (h : Rd w (· < w.heap.size) (some ad) x) (hn : n = x.length) (h1 : 1 ≤ x.length) (hc : n ≤ c) (hc' : c ≤ 9223372036854775807) (hs : spanOk x = true) (hl : manyN (at0 x 0) < x.length) :
    Calls Tryz.prog 93 #[.slice (some ad) n c] w (BeginsOf x w) := by
  have hsp := Lib.hid (span_yes (span_any ad x n c w h hn h1 hc hc') hs)
  have hb' := Lib.hid (bo_long hl)
  have g : ((manyN (at0 x 0) : Nat) : Int) < (n : Int) := by omega
  clear h hn h1 hs hl
  generalize ((manyN (at0 x 0) : Nat) : Int) = m at hsp g
  generalize ((lowN x (manyN (at0 x 0) - 1) : Nat) : Int) = lo at hsp
  generalize ((topN x (manyN (at0 x 0) - 1) : Nat) : Int) = tq at hsp
  go_enter Tryz.func93, Tryz.ntmps93
  go_wp2_with (go_at_call 94; refine hsp.out.mono ?_; rintro e w2 ⟨rfl, hb2⟩)
  go_ret2
  exact ⟨0, by rw [hb'.out]; rfl, fun h => by (rw [hb'.out] at h; cases h), hb2⟩
set_option maxRecDepth 100000 in
theorem begins_1 (ad : Addr) (x : List UInt8) (n c : Nat) (w : World) (h : Rd w (· < w.heap.size) (some ad) x) (hn : n = x.length) (h1 : 1 ≤ x.length) (hc : n ≤ c) (hc' : c ≤ 9223372036854775807) (hs : spanOk x = true) (hl : x.length ≤ manyN (at0 x 0)) (hm : manyN (at0 x 0) = 1) :
    Calls Tryz.prog 93 #[.slice (some ad) n c] w (BeginsOf x w) := by
  have hsp := Lib.hid (span_yes (span_any ad x n c w h hn h1 hc hc') hs)
  have hb : beginsOk x = testN 1 (lowN x 0) (topN x 0) := by rw [beginsOk_eq, hs, decide_eq_true hl, hm]; rfl
  have hb' := Lib.hid hb
  have g : (n : Int) ≤ 1 := by omega
  rw [hm] at hsp
  have hm' := Lib.hid hm
  have hlo := low_lt3 x (i := 0) (by omega)
  clear h hn h1 hs hl hb hm
  generalize hl0 : lowN x 0 = l0 at hlo hb'
  generalize ht0 : topN x 0 = t0 at hlo hb'
  obtain ⟨lo, hlo1⟩ : ∃ lo : Int, lo = l0 := ⟨_, rfl⟩
  obtain ⟨tq, hto1⟩ : ∃ tq : Int, tq = t0 := ⟨_, rfl⟩
  have hsp' : Hid (Calls Tryz.prog 94 #[.slice (some ad) n c] w fun e w' => e = .returned (.tuple #[.int .i64 1, .int .i64 lo, .int .i64 tq, .bool true]) ∧ Below w.heap.size w w') := by rw [hlo1, hto1, ← hl0, ← ht0]; exact hsp
  have hlo2 := Lib.hid hlo1
  have hto2 := Lib.hid hto1
  clear hsp hl0 ht0 hlo1 hto1
  go_enter Tryz.func93, Tryz.ntmps93
  go_wp2_with (go_at_call 94; refine hsp'.out.mono ?_; rintro e w2 ⟨rfl, hb2⟩)
  all_goals
    go_ret2
    refine ⟨1, congrArg (fun b : Bool => Ending.returned (.tuple #[.int .i64 1, .bool b])) ?_, fun _ => by rw [hm'.out]; rfl, hb2.alloc hb2.size _⟩
    rw [hb'.out, test1]
    have q1 := hlo2.out
    have q2 := hto2.out
    first | exact decide_eq_decide.2 (by omega) | exact (decide_eq_true (by omega)).symm | exact (decide_eq_false (by omega)).symm
set_option maxRecDepth 100000 in
theorem begins_2 (ad : Addr) (x : List UInt8) (n c : Nat) (w : World) (h : Rd w (· < w.heap.size) (some ad) x) (hn : n = x.length) (h1 : 1 ≤ x.length) (hc : n ≤ c) (hc' : c ≤ 9223372036854775807) (hs : spanOk x = true) (hl : x.length ≤ manyN (at0 x 0)) (hm : manyN (at0 x 0) = 2) :
    Calls Tryz.prog 93 #[.slice (some ad) n c] w (BeginsOf x w) := by
  have hsp := Lib.hid (span_yes (span_any ad x n c w h hn h1 hc hc') hs)
  have hb : beginsOk x = testN 2 (lowN x 1) (topN x 1) := by rw [beginsOk_eq, hs, decide_eq_true hl, hm]; rfl
  have hb' := Lib.hid hb
  have g : (n : Int) ≤ 2 := by omega
  rw [hm] at hsp
  have hm' := Lib.hid hm
  have hlo := low_lt3 x (i := 1) (by omega)
  clear h hn h1 hs hl hb hm
  generalize hl0 : lowN x 1 = l0 at hlo hb'
  generalize ht0 : topN x 1 = t0 at hlo hb'
  obtain ⟨lo, hlo1⟩ : ∃ lo : Int, lo = l0 := ⟨_, rfl⟩
  obtain ⟨tq, hto1⟩ : ∃ tq : Int, tq = t0 := ⟨_, rfl⟩
  have hsp' : Hid (Calls Tryz.prog 94 #[.slice (some ad) n c] w fun e w' => e = .returned (.tuple #[.int .i64 2, .int .i64 lo, .int .i64 tq, .bool true]) ∧ Below w.heap.size w w') := by rw [hlo1, hto1, ← hl0, ← ht0]; exact hsp
  have hlo2 := Lib.hid hlo1
  have hto2 := Lib.hid hto1
  clear hsp hl0 ht0 hlo1 hto1
  go_enter Tryz.func93, Tryz.ntmps93
  go_wp2_with (go_at_call 94; refine hsp'.out.mono ?_; rintro e w2 ⟨rfl, hb2⟩)
  all_goals
    go_ret2
    refine ⟨2, congrArg (fun b : Bool => Ending.returned (.tuple #[.int .i64 2, .bool b])) ?_, fun _ => by rw [hm'.out]; rfl, hb2.alloc hb2.size _⟩
    rw [hb'.out, test2]
    have q1 := hlo2.out
    have q2 := hto2.out
    first | exact decide_eq_decide.2 (by omega) | exact (decide_eq_true (by omega)).symm | exact (decide_eq_false (by omega)).symm
set_option maxRecDepth 100000 in
theorem begins_4 (ad : Addr) (x : List UInt8) (n c : Nat) (w : World) (h : Rd w (· < w.heap.size) (some ad) x) (hn : n = x.length) (h1 : 1 ≤ x.length) (hc : n ≤ c) (hc' : c ≤ 9223372036854775807) (hs : spanOk x = true) (hl : x.length ≤ manyN (at0 x 0)) (hm : manyN (at0 x 0) = 4) :
    Calls Tryz.prog 93 #[.slice (some ad) n c] w (BeginsOf x w) := by
  have hsp := Lib.hid (span_yes (span_any ad x n c w h hn h1 hc hc') hs)
  have hb : beginsOk x = testN 4 (lowN x 3) (topN x 3) := by rw [beginsOk_eq, hs, decide_eq_true hl, hm]; rfl
  have hb' := Lib.hid hb
  have g : (n : Int) ≤ 4 := by omega
  rw [hm] at hsp
  have hm' := Lib.hid hm
  have hlo := low_lt3 x (i := 3) (by omega)
  clear h hn h1 hs hl hb hm
  generalize hl0 : lowN x 3 = l0 at hlo hb'
  generalize ht0 : topN x 3 = t0 at hlo hb'
  obtain ⟨lo, hlo1⟩ : ∃ lo : Int, lo = l0 := ⟨_, rfl⟩
  obtain ⟨tq, hto1⟩ : ∃ tq : Int, tq = t0 := ⟨_, rfl⟩
  have hsp' : Hid (Calls Tryz.prog 94 #[.slice (some ad) n c] w fun e w' => e = .returned (.tuple #[.int .i64 4, .int .i64 lo, .int .i64 tq, .bool true]) ∧ Below w.heap.size w w') := by rw [hlo1, hto1, ← hl0, ← ht0]; exact hsp
  have hlo2 := Lib.hid hlo1
  have hto2 := Lib.hid hto1
  clear hsp hl0 ht0 hlo1 hto1
  go_enter Tryz.func93, Tryz.ntmps93
  go_wp2_with (go_at_call 94; refine hsp'.out.mono ?_; rintro e w2 ⟨rfl, hb2⟩)
  all_goals
    go_ret2
    refine ⟨4, congrArg (fun b : Bool => Ending.returned (.tuple #[.int .i64 4, .bool b])) ?_, fun _ => by rw [hm'.out]; rfl, hb2.alloc hb2.size _⟩
    rw [hb'.out, test4]
    have q1 := hlo2.out
    have q2 := hto2.out
    first | exact decide_eq_decide.2 (by omega) | exact (decide_eq_true (by omega)).symm | exact (decide_eq_false (by omega)).symm
set_option maxRecDepth 100000 in
theorem begins_3 (ad : Addr) (x : List UInt8) (n c : Nat) (w : World) (h : Rd w (· < w.heap.size) (some ad) x) (hn : n = x.length) (h1 : 1 ≤ x.length) (hc : n ≤ c) (hc' : c ≤ 9223372036854775807) (hs : spanOk x = true) (hl : x.length ≤ manyN (at0 x 0)) (hm : manyN (at0 x 0) = 3) :
    Calls Tryz.prog 93 #[.slice (some ad) n c] w (BeginsOf x w) := by
  have hsp := Lib.hid (span_yes (span_any ad x n c w h hn h1 hc hc') hs)
  have hb : beginsOk x = testN 3 (lowN x 2) (topN x 2) := by rw [beginsOk_eq, hs, decide_eq_true hl, hm]; rfl
  have hb' := Lib.hid hb
  have g : (n : Int) ≤ 3 := by omega
  rw [hm] at hsp
  have hm' := Lib.hid hm
  have hlo := low_lt3 x (i := 2) (by omega)
  clear h hn h1 hs hl hb hm
  generalize hl0 : lowN x 2 = l0 at hlo hb'
  generalize ht0 : topN x 2 = t0 at hlo hb'
  obtain ⟨lo, hlo1⟩ : ∃ lo : Int, lo = l0 := ⟨_, rfl⟩
  obtain ⟨tq, hto1⟩ : ∃ tq : Int, tq = t0 := ⟨_, rfl⟩
  have hsp' : Hid (Calls Tryz.prog 94 #[.slice (some ad) n c] w fun e w' => e = .returned (.tuple #[.int .i64 3, .int .i64 lo, .int .i64 tq, .bool true]) ∧ Below w.heap.size w w') := by rw [hlo1, hto1, ← hl0, ← ht0]; exact hsp
  have hlo2 := Lib.hid hlo1
  have hto2 := Lib.hid hto1
  clear hsp hl0 ht0 hlo1 hto1
  go_enter Tryz.func93, Tryz.ntmps93
  go_wp2_with (go_at_call 94; refine hsp'.out.mono ?_; rintro e w2 ⟨rfl, hb2⟩)
  all_goals
    go_ret2
    have q1 := hlo2.out
    have q2 := hto2.out
    first
    | (refine ⟨3, congrArg (fun b : Bool => Ending.returned (.tuple #[.int .i64 3, .bool b])) ?_, fun _ => by rw [hm'.out]; rfl, hb2.alloc hb2.size _⟩
       rw [hb'.out, test3]
       first | exact decide_eq_decide.2 (by omega) | exact (decide_eq_true (by omega)).symm | exact (decide_eq_false (by omega)).symm)
    | (have hf : beginsOk x = false := by
         rw [hb'.out, test3]
         exact decide_eq_false (by omega)
       exact ⟨0, by rw [hf]; rfl, fun h => (by rw [hf] at h; cases h), hb2.alloc hb2.size _⟩)
theorem begins_any (ad : Addr) (x : List UInt8) (n c : Nat) (w : World) (h : Rd w (· < w.heap.size) (some ad) x) (hn : n = x.length) (h1 : 1 ≤ x.length) (hc : n ≤ c) (hc' : c ≤ 9223372036854775807) :
    Calls Tryz.prog 93 #[.slice (some ad) n c] w (BeginsOf x w) := by
  cases hs : spanOk x with
  | false => exact begins_no ad x n c w h hn h1 hc hc' hs
  | true =>
    rcases Nat.lt_or_ge (manyN (at0 x 0)) x.length with hl | hl
    · exact begins_long ad x n c w h hn h1 hc hc' hs hl
    · rcases many_le (at0 x 0) with m | m | m | m | m
      · exact absurd hl (by omega)
      · exact begins_1 ad x n c w h hn h1 hc hc' hs hl m
      · exact begins_2 ad x n c w h hn h1 hc hc' hs hl m
      · exact begins_3 ad x n c w h hn h1 hc hc' hs hl m
      · exact begins_4 ad x n c w h hn h1 hc hc' hs hl m
end Go.Proofs.YtlcfpnegpihicaaGreatDoor

namespace Go.Proofs.YtlcfpnegpihicaaGreatDoor
open Go.RowKit Go.Shelf

/-! ## The law's own words of a point -/
theorem byt_u8 {z : Int} {n : Nat} (h : z = n) (hn : n < 256) : Value.int .u8 z = byt (u8 n) := by
  unfold byt
  rw [u8_toNat hn, h]
theorem bs_new {w : World} {l : List UInt8} {cs : Array Value} {n : Nat} (hn : n = l.length) (hl : l.length ≤ 4) (h : cs = (byts l).toArray) : Bs (w.alloc (.cells cs 5)) w.heap.size (.slice (some ⟨w.heap.size, 0, none⟩) n n) l := by
  subst h; subst hn
  exact ⟨by rw [byts_length, Nat.mul_one], .inr ⟨w.heap.size, l.length, _, rfl, Nat.le_refl _, World.alloc_heap_new w _, Nat.le_refl _, by unfold maxLen; omega, by simp [byts], by rw [← byts_length l]; simp⟩⟩
set_option maxHeartbeats 1000000 in
theorem refBytes_any (z : Int) (n : Nat) (w : World) (hz : z = n) (hn : isPt n) : Calls Tryz.prog 50 #[.int .i64 z] w fun e w' => ∃ v, e = .returned v ∧ Bs w' w.heap.size v (ptB n) ∧ Below w.heap.size w w' := by
  unfold isPt at hn
  have hz' := Lib.hid hz
  have g0 : 0 ≤ z := by omega
  have g9 : z ≤ 1114111 := by omega
  clear hz
  by_cases h1 : n < 128
  · have g1 : z < 128 := by have := hz'.out; omega
    go_enter Tryz.func50, Tryz.ntmps50
    go_wp2
    go_ret
    refine ⟨_, rfl, ?_, (Below.refl _ _).alloc (Nat.le_refl _) _⟩
    unfold ptB
    rw [if_pos h1]
    exact bs_new rfl (by simp) (by have := hz'.out; rw [byt_u8 (n := n) (by omega) (by omega)]; rfl)
  · by_cases h2 : n < 2048
    · have g1 : 128 ≤ z := by have := hz'.out; omega
      have g2 : z < 2048 := by have := hz'.out; omega
      go_enter Tryz.func50, Tryz.ntmps50
      go_wp2
      go_ret
      refine ⟨_, rfl, ?_, (Below.refl _ _).alloc (Nat.le_refl _) _⟩
      unfold ptB
      rw [if_neg h1, if_pos h2]
      exact bs_new rfl (by simp) (by have := hz'.out; rw [byt_u8 (n := 192 + n / 64) (by omega) (by omega), byt_u8 (n := 128 + n % 64) (by omega) (by omega)]; rfl)
    · by_cases h3 : n < 65536
      · have g1 : 2048 ≤ z := by have := hz'.out; omega
        have g2 : z < 65536 := by have := hz'.out; omega
        go_enter Tryz.func50, Tryz.ntmps50
        go_wp2
        go_ret
        refine ⟨_, rfl, ?_, (Below.refl _ _).alloc (Nat.le_refl _) _⟩
        unfold ptB
        rw [if_neg h1, if_neg h2, if_pos h3]
        exact bs_new rfl (by simp) (by have := hz'.out; rw [byt_u8 (n := 224 + n / 4096) (by omega) (by omega), byt_u8 (n := 128 + n / 64 % 64) (by omega) (by omega), byt_u8 (n := 128 + n % 64) (by omega) (by omega)]; rfl)
      · have g1 : 65536 ≤ z := by have := hz'.out; omega
        go_enter Tryz.func50, Tryz.ntmps50
        go_wp2
        go_ret
        refine ⟨_, rfl, ?_, (Below.refl _ _).alloc (Nat.le_refl _) _⟩
        unfold ptB
        rw [if_neg h1, if_neg h2, if_neg h3]
        exact bs_new rfl (by simp) (by have := hz'.out; rw [byt_u8 (n := 240 + n / 262144) (by omega) (by omega), byt_u8 (n := 128 + n / 4096 % 64) (by omega) (by omega), byt_u8 (n := 128 + n / 64 % 64) (by omega) (by omega), byt_u8 (n := 128 + n % 64) (by omega) (by omega)]; rfl)
end Go.Proofs.YtlcfpnegpihicaaGreatDoor

namespace Go.Proofs.YtlcfpnegpihicaaGreatDoor
open Go.RowKit

/-! ## What stands first, by the document's reading -/
theorem at0_cons (c : UInt8) (r : List UInt8) (j : Nat) : at0 (c :: r) (j + 1) = at0 r j := rfl
theorem at0_get {x : List UInt8} {j : Nat} (h : j < x.length) : at0 x j = x[j].toNat := by unfold at0; rw [List.getD_eq_getElem?_getD, List.getElem?_eq_getElem h]; rfl
theorem at0_take {x : List UInt8} {n j : Nat} (h : j < n) : at0 (x.take n) j = at0 x j := by
  unfold at0; rw [List.getD_eq_getElem?_getD, List.getD_eq_getElem?_getD, List.getElem?_take, if_pos h]
/-- Some point's bytes begin with the first n ones. -/
def okn (x : List UInt8) (n : Nat) : Prop := kOf (at0 x 0) ≠ 9 ∧ n ≤ moreN (kOf (at0 x 0)) + 1 ∧ ∀ j, 1 ≤ j → j < n → inR (kOf (at0 x 0)) j (at0 x j)
theorem okp_take {x : List UInt8} {n : Nat} (h1 : 1 ≤ n) (hn : n ≤ x.length) : okp (x.take n) ↔ okn x n := by
  have hl : (x.take n).length = n := by rw [List.length_take]; omega
  unfold okp okn
  rw [hl, at0_take (show 0 < n by omega)]
  constructor
  · exact fun ⟨a, b, c⟩ => ⟨a, b, fun j hj hj2 => by have := c j hj hj2; rwa [at0_take hj2] at this⟩
  · exact fun ⟨a, b, c⟩ => ⟨a, b, fun j hj hj2 => by have := c j hj hj2; rwa [at0_take hj2]⟩
theorem look_facts {x : List UInt8} (h0 : x ≠ []) (h9 : kOf (at0 x 0) ≠ 9) : 1 ≤ (look x).size ∧ (look x).size ≤ x.length ∧ (look x).st ≤ 2 ∧
    (∀ j, 1 ≤ j → j < (look x).size → inR (kOf (at0 x 0)) j (at0 x j)) ∧ ((look x).st = 0 → (look x).size = moreN (kOf (at0 x 0)) + 1) ∧
    ((look x).st = 1 → (look x).size < moreN (kOf (at0 x 0)) + 1 ∧ (look x).size < x.length ∧ ¬ inR (kOf (at0 x 0)) (look x).size (at0 x (look x).size)) ∧
    ((look x).st = 2 → (look x).size < moreN (kOf (at0 x 0)) + 1 ∧ (look x).size = x.length) := by
  cases x with
  | nil => exact absurd rfl h0
  | cons c r =>
    have hs := look_size (l := c :: r) h0
    have e0 : at0 (c :: r) 0 = c.toNat := rfl
    rw [e0] at h9 ⊢
    obtain ⟨L, hL⟩ : ∃ L, look (c :: r) = L := ⟨_, rfl⟩
    rw [hL] at hs ⊢
    have hg : goOn (kOf c.toNat) (moreN (kOf c.toNat)) 1 (c.toNat - markN (kOf c.toNat)) r = L := by rw [← hL, look, if_neg h9]
    obtain ⟨g1, g2, g3, g4⟩ := goOn_end _ _ _ _ _ _ hg
    refine ⟨hs.1, hs.2.2.1, hs.2.2.2, fun j h1 h2 => ?_, fun h => by have := g2 h; omega, fun h => ?_, fun h => ?_⟩
    · obtain ⟨i, rfl⟩ : ∃ i, j = i + 1 := ⟨j - 1, by omega⟩
      have hi : i < r.length := by have := hs.2.2.1; rw [List.length_cons] at this; omega
      have := g1 i hi (by omega)
      rw [at0_cons, at0_get hi, Nat.add_comm i 1]
      exact this
    · obtain ⟨_, a, hi, b⟩ := g3 h
      refine ⟨by omega, by rw [List.length_cons]; have := hs.1; omega, ?_⟩
      have key : ∀ (s : Nat) (hr : s - 1 < r.length), 1 ≤ s → at0 (c :: r) s = (r[s - 1]'hr).toNat := by
        intro s hr h1
        obtain ⟨i, rfl⟩ : ∃ i, s = i + 1 := ⟨s - 1, by omega⟩
        exact at0_get (x := r) (j := i) hr
      rw [key _ hi hs.1]
      exact b
    · obtain ⟨_, a, b⟩ := g4 h
      exact ⟨by omega, by rw [List.length_cons]; omega⟩
theorem look_ext {L : Look} {a b c : Nat} (h1 : L.point = a) (h2 : L.size = b) (h3 : L.st = c) : L = ⟨a, b, c⟩ := by cases L; cases h1; cases h2; cases h3; rfl
/-- At once: nothing begins so. -/
theorem first_no0 {x : List UInt8} (h0 : x ≠ []) (h : ¬ okn x 1) : look x = ⟨65533, 1, 1⟩ := by
  have h9 : kOf (at0 x 0) = 9 := by
    refine Decidable.byContradiction fun hn => h ⟨hn, by omega, fun j h1 h2 => by omega⟩
  cases x with
  | nil => exact absurd rfl h0
  | cons c r => rw [look]; exact if_pos h9
theorem first_no {x : List UInt8} {n : Nat} (_h1 : 1 ≤ n) (ho : okn x n) (hm : n < moreN (kOf (at0 x 0)) + 1) (hn : n < x.length) (h : ¬ okn x (n + 1)) : look x = ⟨65533, n, 1⟩ := by
  have hx : x ≠ [] := by rintro rfl; simp at hn
  obtain ⟨f1, f2, f3, f4, f5, f6, f7⟩ := look_facts hx ho.1
  have hsz : (look x).size ≤ n := by
    refine Nat.le_of_not_lt fun hlt => h ⟨ho.1, by omega, fun j hj hj2 => ?_⟩
    exact f4 j hj (by omega)
  have hst : (look x).st = 1 := by
    have hc : (look x).st = 0 ∨ (look x).st = 1 ∨ (look x).st = 2 := by omega
    rcases hc with h | h | h
    · have := f5 h; omega
    · exact h
    · have := f7 h; omega
  have hge : n ≤ (look x).size := by
    refine Nat.le_of_not_lt fun hlt => (f6 hst).2.2 (ho.2.2 _ f1 hlt)
  exact look_ext (look_pt (by omega)) (by omega) hst
theorem first_short {x : List UInt8} (h0 : x ≠ []) (ho : okn x x.length) (hm : x.length < moreN (kOf (at0 x 0)) + 1) : look x = ⟨65533, x.length, 2⟩ := by
  obtain ⟨f1, f2, f3, f4, f5, f6, f7⟩ := look_facts h0 ho.1
  have hst : (look x).st = 2 := by
    have hc : (look x).st = 0 ∨ (look x).st = 1 ∨ (look x).st = 2 := by omega
    rcases hc with h | h | h
    · have := f5 h; omega
    · exact absurd (ho.2.2 _ f1 (f6 h).2.1) (f6 h).2.2
    · exact h
  exact look_ext (look_pt (by omega)) (f7 hst).2 hst
theorem first_whole {x : List UInt8} {n : Nat} (ho : okn x n) (hm : n = moreN (kOf (at0 x 0)) + 1) (hn : n ≤ x.length) : (look x).st = 0 ∧ (look x).size = n := by
  have hx : x ≠ [] := by rintro rfl; simp at hn; omega
  obtain ⟨f1, f2, f3, f4, f5, f6, f7⟩ := look_facts hx ho.1
  have hst : (look x).st = 0 := by
    have hc : (look x).st = 0 ∨ (look x).st = 1 ∨ (look x).st = 2 := by omega
    rcases hc with h | h | h
    · exact h
    · exact absurd (ho.2.2 _ f1 (by have := (f6 h).1; omega)) (f6 h).2.2
    · have := f7 h; omega
  exact ⟨hst, by have := f5 hst; omega⟩
/-- The span of a point's bytes is that point. -/
theorem low_pt {p : Nat} (h : isPt p) : lowN (ptB p) (manyN (at0 (ptB p) 0) - 1) = p := by
  unfold isPt at h
  unfold ptB
  split
  · have e0 : at0 [u8 p] 0 = p := u8_toNat (by omega)
    have hm : manyN p = 1 := by unfold manyN; rw [if_pos (by omega)]
    rw [e0, hm]
    show firstN (at0 [u8 p] 0) = p
    rw [e0]; unfold firstN; rw [if_pos (by omega)]
  · split
    · have e0 : at0 [u8 (192 + p / 64), u8 (128 + p % 64)] 0 = 192 + p / 64 := u8_toNat (by omega)
      have e1 : at0 [u8 (192 + p / 64), u8 (128 + p % 64)] 1 = 128 + p % 64 := u8_toNat (by omega)
      have hm : manyN (192 + p / 64) = 2 := by unfold manyN; (repeat' split) <;> omega
      have hf : firstN (192 + p / 64) = p / 64 := by unfold firstN; (repeat' split) <;> omega
      rw [e0, hm]
      simp [lowN, e0, e1, hf]
      omega
    · split
      · have e0 : at0 [u8 (224 + p / 4096), u8 (128 + p / 64 % 64), u8 (128 + p % 64)] 0 = 224 + p / 4096 := u8_toNat (by omega)
        have e1 : at0 [u8 (224 + p / 4096), u8 (128 + p / 64 % 64), u8 (128 + p % 64)] 1 = 128 + p / 64 % 64 := u8_toNat (by omega)
        have e2 : at0 [u8 (224 + p / 4096), u8 (128 + p / 64 % 64), u8 (128 + p % 64)] 2 = 128 + p % 64 := u8_toNat (by omega)
        have hm : manyN (224 + p / 4096) = 3 := by unfold manyN; (repeat' split) <;> omega
        have hf : firstN (224 + p / 4096) = p / 4096 := by unfold firstN; (repeat' split) <;> omega
        rw [e0, hm]
        simp [lowN, e0, e1, e2, hf]
        omega
      · have e0 : at0 [u8 (240 + p / 262144), u8 (128 + p / 4096 % 64), u8 (128 + p / 64 % 64), u8 (128 + p % 64)] 0 = 240 + p / 262144 := u8_toNat (by omega)
        have e1 : at0 [u8 (240 + p / 262144), u8 (128 + p / 4096 % 64), u8 (128 + p / 64 % 64), u8 (128 + p % 64)] 1 = 128 + p / 4096 % 64 := u8_toNat (by omega)
        have e2 : at0 [u8 (240 + p / 262144), u8 (128 + p / 4096 % 64), u8 (128 + p / 64 % 64), u8 (128 + p % 64)] 2 = 128 + p / 64 % 64 := u8_toNat (by omega)
        have e3 : at0 [u8 (240 + p / 262144), u8 (128 + p / 4096 % 64), u8 (128 + p / 64 % 64), u8 (128 + p % 64)] 3 = 128 + p % 64 := u8_toNat (by omega)
        have hm : manyN (240 + p / 262144) = 4 := by unfold manyN; (repeat' split) <;> omega
        have hf : firstN (240 + p / 262144) = p / 262144 := by unfold firstN; (repeat' split) <;> omega
        rw [e0, hm]
        simp [lowN, e0, e1, e2, e3, hf]
        omega
theorem first_point {x : List UInt8} {n : Nat} (_h1 : 1 ≤ n) (ho : okn x n) (hm : n = moreN (kOf (at0 x 0)) + 1) (hn : n ≤ x.length) :
    look x = ⟨lowN (x.take n) (manyN (at0 (x.take n) 0) - 1), n, 0⟩ := by
  obtain ⟨a, b⟩ := first_whole ho hm hn
  obtain ⟨c, d⟩ := whole_pt a
  rw [b] at c
  refine look_ext ?_ b a
  rw [c, low_pt d]
theorem okn_many {x : List UInt8} {n : Nat} (ho : okn x n) : manyN (at0 x 0) = moreN (kOf (at0 x 0)) + 1 := (more_many _ (lt256 _) ho.1).symm
theorem begins_okn {x : List UInt8} {n : Nat} (h1 : 1 ≤ n) (h4 : n ≤ 4) (hn : n ≤ x.length) : beginsOk (x.take n) = true ↔ okn x n := by
  have hl : (x.take n).length = n := by rw [List.length_take]; omega
  rw [begins_okp _ (by omega) (by omega), okp_take h1 hn]
theorem begins_span {x : List UInt8} (h : beginsOk x = true) : spanOk x = true := by
  rw [beginsOk_eq, Bool.and_eq_true, Bool.and_eq_true] at h
  exact h.1.1

/-! ## First, walked -/
def FirstOf (x : List UInt8) (w : World) (e : Ending) (w' : World) : Prop :=
  e = .returned (.tuple #[.int .i64 ((look x).point : Int), .int .i64 ((look x).size : Int), .bool (decide ((look x).st ≠ 2))]) ∧ Below w.heap.size w w'
theorem begins_false {ad : Addr} {x : List UInt8} {n c : Nat} {w : World} (h : Calls Tryz.prog 93 #[.slice (some ad) n c] w (BeginsOf x w)) (hs : beginsOk x = false) :
    Calls Tryz.prog 93 #[.slice (some ad) n c] w fun e w' => (∃ mv : Int, e = .returned (.tuple #[.int .i64 mv, .bool false])) ∧ Below w.heap.size w w' := by
  refine h.mono ?_
  rintro e w' ⟨mv, rfl, _, hb⟩
  rw [hs]
  exact ⟨⟨mv, rfl⟩, hb⟩
theorem begins_true {ad : Addr} {x : List UInt8} {n c : Nat} {w : World} (h : Calls Tryz.prog 93 #[.slice (some ad) n c] w (BeginsOf x w)) (hs : beginsOk x = true) :
    Calls Tryz.prog 93 #[.slice (some ad) n c] w fun e w' => e = .returned (.tuple #[.int .i64 (manyN (at0 x 0)), .bool true]) ∧ Below w.heap.size w w' := by
  refine h.mono ?_
  rintro e w' ⟨mv, rfl, hm, hb⟩
  rw [hs, hm hs]
  exact ⟨rfl, hb⟩
theorem begins_at {ad : Addr} {x : List UInt8} {c : Nat} (k : Nat) {w W : World} (h : Rd w (· < w.heap.size) (some ad) x) (hb : Below w.heap.size w W) (hk : k < x.length) (hc : x.length ≤ c) (hc' : c ≤ 9223372036854775807) :
    Calls Tryz.prog 93 #[.slice (some ad) (k + 1) c] W (BeginsOf (x.take (k + 1)) W) ∧ Calls Tryz.prog 94 #[.slice (some ad) (k + 1) c] W (SpanOf (x.take (k + 1)) W) := by
  have hl : (x.take (k + 1)).length = k + 1 := by rw [List.length_take]; omega
  have hr : Rd W (· < W.heap.size) (some ad) (x.take (k + 1)) := ((h.kept (Kept.below hb (fun _ h => h))).mono (S' := (· < W.heap.size)) (fun b hb' => by have hb' : b < w.heap.size := hb'; have := hb.size; show b < W.heap.size; omega)).take (k + 1)
  exact ⟨begins_any ad _ _ c W hr hl.symm (by omega) (by omega) hc', span_any ad _ _ c W hr hl.symm (by omega) (by omega) hc'⟩
set_option maxRecDepth 100000 in
set_option maxHeartbeats 2000000 in
theorem first_any (ad : Addr) (x : List UInt8) (n c : Nat) (w : World) (h : Rd w (· < w.heap.size) (some ad) x) (hn : n = x.length) (h1 : 1 ≤ x.length) (hc : n ≤ c) (hc' : c ≤ 9223372036854775807) :
    Calls Tryz.prog 69 #[.slice (some ad) n c] w (FirstOf x w) := by
  have h' := Lib.hid h
  have hn' := Lib.hid hn
  have hx : Hid (x ≠ []) := Lib.hid (by rintro rfl; simp at h1)
  clear h
  have hn1 : 1 ≤ n := by omega
  clear hn h1
  go_enter Tryz.func69, Tryz.ntmps69
  go_wp2
  go_loopw [5] (fun v W => ∃ k : Nat, v = .int .i64 (k : Int) ∧ k ≤ n ∧ k ≤ 3 ∧ (k = 0 ∨ okn x k ∧ k < moreN (kOf (at0 x 0)) + 1) ∧ Below w.heap.size w W) (fun v _ => 5 - (intOf v).toNat)
  case atStart => exact ⟨0, rfl, by omega, by omega, .inl rfl, Below.refl _ _⟩
  case round =>
    obtain ⟨k, rfl, hk, hk3, ho, hb⟩ := hrel
    have ho' := Lib.hid ho
    have hb' := Lib.hid hb
    by_cases hlt : k < n
    · have hat := begins_at k h'.out hb (by have := hn'.out; omega) (by have := hn'.out; omega) hc'
      have hat2 := fun W (hbW : Below w.heap.size w W) => (begins_at k h'.out hbW (by have := hn'.out; omega) (by have := hn'.out; omega) hc').2
      have hkc : k + 1 ≤ c := by omega
      cases hbo : beginsOk (x.take (k + 1)) with
      | false =>
        have hbg := Lib.hid (begins_false hat.1 hbo)
        have hno : Hid (¬ okn x (k + 1)) := Lib.hid (by rw [← begins_okn (by omega) (by omega) (by have := hn'.out; omega), hbo]; decide)
        clear hat ho hb hbo
        rcases Nat.eq_zero_or_pos k with k0 | k0
        · subst k0
          go_wp2_with (go_at_call 93; refine hbg.out.mono ?_; rintro e w2 ⟨⟨mv, rfl⟩, hb2⟩)
          refine bodyPost_ret (v := .tuple #[.int .i64 65533, .int .i64 1, .bool true]) (by simp [results, Tryz.results69, go_sem] <;> rfl) rfl ⟨?_, hb'.out.trans (hb2.mono hb'.out.size)⟩
          rw [first_no0 hx.out hno.out]
          rfl
        · have ki : (1 : Int) ≤ (k : Int) := by omega
          have kl : (k : Int) < (n : Int) := by omega
          go_wp2_with (go_at_call 93; refine hbg.out.mono ?_; rintro e w2 ⟨⟨mv, rfl⟩, hb2⟩)
          all_goals
            have hf : look x = ⟨65533, k, 1⟩ := by
              rcases ho'.out with h | h
              · omega
              · exact first_no k0 h.1 h.2 (by have := hn'.out; omega) hno.out
            refine bodyPost_ret (v := .tuple #[.int .i64 65533, .int .i64 (k : Int), .bool true]) (by simp [results, Tryz.results69, go_sem] <;> omega) rfl ⟨?_, hb'.out.trans (hb2.mono hb'.out.size)⟩
            rw [hf]
            rfl
      | true =>
        have hok : okn x (k + 1) := by rw [← begins_okn (by omega) (by omega) (by have := hn'.out; omega), hbo]
        have hbg := begins_true hat.1 hbo
        have hsp := fun W (hbW : Below w.heap.size w W) => span_yes (hat2 W hbW) (begins_span hbo)
        have hm0 : at0 (x.take (k + 1)) 0 = at0 x 0 := at0_take (by omega)
        have hfp := fun h => first_point (x := x) (n := k + 1) (by omega) hok h (by have := hn'.out; omega)
        rw [hm0, okn_many hok] at hbg hsp hfp
        have hok' := Lib.hid hok
        have h4 : k + 1 ≤ moreN (kOf (at0 x 0)) + 1 := hok.2.1
        generalize lowN (x.take (k + 1)) (moreN (kOf (at0 x 0)) + 1 - 1) = lo at hsp hfp
        generalize topN (x.take (k + 1)) (moreN (kOf (at0 x 0)) + 1 - 1) = tq at hsp
        have hfp' := Lib.hid hfp
        have hml := moreN_le (kOf (at0 x 0))
        obtain ⟨mm, hmm⟩ : ∃ mm, moreN (kOf (at0 x 0)) + 1 = mm := ⟨_, rfl⟩
        rw [hmm] at hbg hsp h4
        have hmm' := Lib.hid hmm
        have hml' : mm ≤ 4 := by omega
        have hbg' := Lib.hid hbg
        have hsp' := Lib.hid hsp
        clear hat hat2 ho hb hbo hok hbg hsp hm0 hfp hml hmm
        by_cases hwh : k + 1 = mm
        · subst hwh
          go_wp2_with (first | (go_at_call 93; refine hbg'.out.mono ?_; rintro e w2 ⟨rfl, hb2⟩; have hb3' := Lib.hid (hb'.out.trans (hb2.mono hb'.out.size)); have hsp2 := Lib.hid (hsp'.out w2 hb3'.out); clear hb2) | (go_at_call 94; refine hsp2.out.mono ?_; rintro e w3 ⟨rfl, hb4⟩))
          have hf := hfp'.out (by have := hmm'.out; omega)
          refine bodyPost_ret (v := .tuple #[.int .i64 (lo : Int), .int .i64 ((k : Int) + 1), .bool true]) (by simp [results, Tryz.results69, go_sem] <;> rfl) rfl ⟨?_, hb3'.out.trans (hb4.mono hb3'.out.size)⟩
          rw [hf]
          rfl
        · have hi : (k : Int) + 1 < (mm : Int) := by omega
          go_wp2_with (go_at_call 93; refine hbg'.out.mono ?_; rintro e w2 ⟨rfl, hb2⟩)
          refine ⟨⟨k + 1, by go_num, by omega, by omega, .inr ⟨hok'.out, by have := hmm'.out; omega⟩, hb'.out.trans (hb2.mono hb'.out.size)⟩, by simp [intOf]; omega⟩
    · obtain rfl : k = n := by omega
      have ki : (1 : Int) ≤ (k : Int) := by omega
      clear hb ho
      go_wp2
      all_goals
        have hf : look x = ⟨65533, x.length, 2⟩ := by
          rcases ho'.out with h | h
          · omega
          · rw [hn'.out] at h
            exact first_short hx.out h.1 h.2
        refine bodyPost_ret (v := .tuple #[.int .i64 65533, .int .i64 (k : Int), .bool false]) (by simp [results, Tryz.results69, go_sem] <;> omega) rfl ⟨?_, hb'.out⟩
        rw [hf, hn'.out]
        rfl
end Go.Proofs.YtlcfpnegpihicaaGreatDoor

namespace Go.Proofs.YtlcfpnegpihicaaGreatDoor
open Go.RowKit

/-! ## Points that are told, where their bytes begin: a list of them -/
def onesC (l : List (Nat × Nat)) : List Value := l.flatMap fun x => [.int .i64 (x.1 : Int), .int .i64 (x.2 : Int)]
theorem onesC_append (l m : List (Nat × Nat)) : onesC (l ++ m) = onesC l ++ onesC m := by simp [onesC]
theorem onesC_get : ∀ (l : List (Nat × Nat)) (i : Nat) (x : Nat × Nat), l[i]? = some x → (onesC l)[i * 2]? = some (.int .i64 (x.1 : Int)) ∧ (onesC l)[i * 2 + 1]? = some (.int .i64 (x.2 : Int))
  | [], i, x, h => by simp at h
  | y :: l, 0, x, h => by
    obtain rfl : y = x := by simpa using h
    exact ⟨rfl, rfl⟩
  | y :: l, i + 1, x, h => by
    have := onesC_get l i x (by simpa using h)
    show ((.int .i64 (y.1 : Int)) :: (.int .i64 (y.2 : Int)) :: onesC l)[(i + 1) * 2]? = _ ∧ ((.int .i64 (y.1 : Int)) :: (.int .i64 (y.2 : Int)) :: onesC l)[(i + 1) * 2 + 1]? = _
    rw [show (i + 1) * 2 = i * 2 + 1 + 1 from by omega, List.getElem?_cons_succ, List.getElem?_cons_succ, List.getElem?_cons_succ, List.getElem?_cons_succ]
    exact this
theorem onesC_one (l : List (Nat × Nat)) : ∀ u ∈ onesC l, u.oneCell' = true := by
  intro u hu
  obtain ⟨x, _, hu⟩ := List.mem_flatMap.1 hu
  rcases List.mem_cons.1 hu with rfl | hu
  · rfl
  · obtain rfl := List.mem_singleton.1 hu
    rfl
def Ones (W : World) (n0 : Nat) (v : Value) (l : List (Nat × Nat)) : Prop := W.ownsRow n0 119 2 v l.length (onesC l)
theorem ones_nil (W : World) (n0 : Nat) : Ones W n0 (.slice none 0 0) [] := ⟨rfl, .inl ⟨rfl, rfl⟩⟩
/-- Where such a list lies: block g (of none: nowhere). -/
def OnesIn (W : World) (n0 : Nat) (A : Option Addr) (l : List (Nat × Nat)) : Prop := 0 < l.length → ∃ g, A = some ⟨g, 0, none⟩ ∧ n0 ≤ g ∧ g < W.heap.size ∧ ∀ i x, l[i]? = some x → W.cell? ⟨g, i * 2, none⟩ = some (.int .i64 (x.1 : Int)) ∧ W.cell? ⟨g, i * 2 + 1, none⟩ = some (.int .i64 (x.2 : Int))
section
variable {W W' : World} {n0 : Nat} {v : Value} {l : List (Nat × Nat)}
theorem Ones.shape (h : Ones W n0 v l) : ∃ A c, v = .slice A l.length c ∧ OnesIn W n0 A l := by
  have hh := h
  rcases h.2 with ⟨rfl, h0⟩ | ⟨g, cap, cur, rfl, hb, hg, _⟩
  · exact ⟨none, 0, by rw [h0], fun hl => by omega⟩
  · refine ⟨_, cap, rfl, fun _ => ⟨g, rfl, hb, (Array.getElem?_eq_some_iff.1 hg).1, fun i x hx => ?_⟩⟩
    have c := fun j u hu => World.ownsRow.cells (g := g) hh rfl j u hu
    simp only [add_zero_, Nat.zero_add] at c
    exact ⟨c _ _ (onesC_get l i x hx).1, c _ _ (onesC_get l i x hx).2⟩
theorem Ones.own (h : Ones W n0 v l) : ∀ g, v.ownBlock = some g → n0 ≤ g ∧ g < W.heap.size := by
  intro g hg
  rcases h.2 with ⟨rfl, _⟩ | ⟨g', cap, cur, rfl, hb, hh, r⟩
  · cases hg
  · obtain rfl : g' = g := by simpa [Value.ownBlock] using hg
    exact ⟨hb, (Array.getElem?_eq_some_iff.1 hh).1⟩
theorem Ones.kept (h : Ones W n0 v l) (k : ∀ g, v.ownBlock = some g → W'.heap[g]? = W.heap[g]?) : Ones W' n0 v l := by
  refine ⟨h.1, ?_⟩
  rcases h.2 with h | ⟨g, cap, cur, rfl, hb, hg, r⟩
  · exact .inl h
  · exact .inr ⟨g, cap, cur, rfl, hb, (k g rfl).trans hg, r⟩
theorem Ones.below (h : Ones W n0 v l) (hb : Below W.heap.size W W') : Ones W' n0 v l := h.kept fun g hg => hb.block g (h.own g hg).2
theorem OnesIn.below {A : Option Addr} (h : OnesIn W n0 A l) (hb : Below W.heap.size W W') : OnesIn W' n0 A l := fun hl => by
  obtain ⟨g, rfl, h1, h2, h3⟩ := h hl
  refine ⟨g, rfl, h1, Nat.lt_of_lt_of_le h2 hb.size, fun i x hx => ?_⟩
  exact ⟨(hb.cell (p := ⟨g, i * 2, none⟩) h2).trans (h3 i x hx).1, (hb.cell (p := ⟨g, i * 2 + 1, none⟩) h2).trans (h3 i x hx).2⟩
end
theorem infoOne : (Tryz.prog.info? 119).map (fun i => (i.zero, i.size, i.bytes)) = some (some (.agg #[.int .i64 0, .int .i64 0]), 2, 16) := by kernel_rfl
section
variable {w : World} {ops : Array Oper} {rest : List Oper} {o : Oper} {a : Act} {Q : Exit → Act → World → Prop} {n0 : Nat} {v : Value} {l : List (Nat × Nat)}
theorem wpList_append_one (hgd : o.guard = none) (s x : Operand) (ho : o.op = .call { callee := .builtin .append, args := #[s, x], argTypes := #[116, 116] }) (hsv : a.eval s = v) (hv : Ones w n0 v l)
    (k : Nat) (p q : Nat) (hxv : a.eval x = .slice (some ⟨k, 0, none⟩) 1 1) (hx : Has w k 119 #[.int .i64 (p : Int), .int .i64 (q : Int)]) (hs : l.length + 1 ≤ 1099511627776) (hn : n0 ≤ w.heap.size)
    (h : ∀ v' w', Ones w' n0 v' (l ++ [(p, q)]) → w.grownBy w' v.ownBlock → wpList Tryz.prog ops Q rest (a.put o.dst v') w') : wpList Tryz.prog ops Q (o :: rest) a w := by
  obtain ⟨i, hi, hz, hz1, hz2⟩ := info_parts infoOne
  refine wpList_append_own w hgd s x 116 ho n0 119 i _ 2 16 Tryz.underlying116 hi hz hz1 hz2 rfl (by decide) v l.length (onesC l) hsv hv ⟨k, 0, none⟩ 1 1 (onesC [(p, q)]) hxv rfl (fun j u hu => ?_) (onesC_one _) (by simp only [maxLen]; omega) (by omega) hn (fun v' w' h1 h2 _ => h v' w' ?_ h2)
  · rw [add_zero_, Nat.zero_add, hx.cell]
    simpa [onesC] using hu
  · unfold Ones
    rw [List.length_append, List.length_singleton, onesC_append]
    exact h1
end

/-! ## All -/
def ptsOf (x : List UInt8) (ps : List Nat) : List (Nat × Nat) := ps.map fun p => (p, (lookAt x p).point)
def AllOf (x : List UInt8) (w : World) (e : Ending) (w' : World) : Prop := ∃ v, e = .returned v ∧ Ones w' w.heap.size v (ptsOf x (placesFrom x 0)) ∧ Below w.heap.size w w'
theorem placesF_len (l : List UInt8) : ∀ (f p : Nat), (placesF l f p).length ≤ f
  | 0, _ => Nat.le_refl _
  | f + 1, p => by
    unfold placesF
    split
    · have := placesF_len l f (p + (lookAt l p).size)
      simp only [List.length_cons]; omega
    · simp
theorem places_len (l : List UInt8) (p : Nat) : (placesFrom l p).length ≤ l.length - p := placesF_len l _ p
theorem partP_len {x : List UInt8} {pre : List Nat} {p : Nat} (h : pre ++ placesFrom x p = placesFrom x 0) : pre.length + (placesFrom x p).length ≤ x.length := by
  have := congrArg List.length h
  rw [List.length_append] at this
  have := places_len x 0
  omega
theorem partP_next {x : List UInt8} {pre : List Nat} {p : Nat} (h : pre ++ placesFrom x p = placesFrom x 0) (hp : p < x.length) : (pre ++ [p]) ++ placesFrom x (p + (lookAt x p).size) = placesFrom x 0 := by
  rw [← h, places_step hp]; simp
theorem first_drop (ad : Addr) (x : List UInt8) (p n c : Nat) {w W : World} (h : Rd w (· < w.heap.size) (some ad) x) (hb : Below w.heap.size w W) (hn : n = x.length) (hp : p < n) (hc : n ≤ c) (hc' : c ≤ 9223372036854775807) :
    Calls Tryz.prog 69 #[.slice (some (ad.add p)) (n - p) (c - p)] W (FirstOf (x.drop p) W) := by
  have hr := ((h.kept (Kept.below hb (fun _ h => h))).mono (S' := (· < W.heap.size)) (fun b hb' => by have hb' : b < w.heap.size := hb'; have := hb.size; show b < W.heap.size; omega)).drop p c (by omega)
  rw [if_neg (by omega)] at hr
  exact first_any (ad.add p) (x.drop p) (n - p) (c - p) W hr (by rw [List.length_drop, hn]) (by rw [List.length_drop]; omega) (by omega) (by omega)
set_option maxRecDepth 100000 in
set_option maxHeartbeats 2000000 in
theorem all_anyU (A : Option Addr) (x : List UInt8) (n c : Nat) (w : World) (h : Rd w (· < w.heap.size) A x) (hn : n = x.length) (hc : n ≤ c) (hc' : c ≤ 9223372036854775807) (hl : n ≤ 1099511627) :
    Calls Tryz.prog 48 #[.slice A n c] w (AllOf x w) := by
  have h' := Lib.hid h
  have hn' := Lib.hid hn
  clear h hn
  go_enter Tryz.func48, Tryz.ntmps48
  go_wp2
  go_loopw [3, 4] (fun v i W => ∃ (p : Nat) (pre : List Nat), i = .int .i64 (p : Int) ∧ p ≤ n ∧ pre ++ placesFrom x p = placesFrom x 0 ∧ Ones W w.heap.size v (ptsOf x pre) ∧ Below w.heap.size w W) (fun _ i _ => n - (intOf i).toNat)
  case atStart => exact ⟨0, [], rfl, by omega, rfl, ones_nil _ _, Below.refl _ _⟩
  case round =>
    obtain ⟨p, pre, rfl, hp, hpre, hv, hb⟩ := hrel
    have hpre' := Lib.hid hpre
    have hv' := Lib.hid hv
    have hb' := Lib.hid hb
    by_cases hlt : p < n
    · obtain ⟨ad, had, _⟩ := h'.out (by have := hn'.out; omega)
      subst had
      have hf := first_drop ad x p n c h'.out hb hn'.out hlt hc hc'
      have hla := lookAt_le (l := x) (p := p) (by have := hn'.out; omega)
      have hpl := partP_len hpre
      have hpc : (p : Int) < (c : Int) := by omega
      have hpi : (p : Int) < (n : Int) := by omega
      have hnx := Lib.hid (partP_next hpre (by have := hn'.out; omega))
      have hpts : ptsOf x (pre ++ [p]) = ptsOf x pre ++ [(p, (lookAt x p).point)] := by simp [ptsOf]
      have hpts' := Lib.hid hpts
      have hll : (ptsOf x pre).length = pre.length := by simp [ptsOf]
      have hlen : Hid ((ptsOf x pre).length + 1 ≤ 1099511627776) := Lib.hid (by have := hn'.out; omega)
      unfold FirstOf at hf
      have hlk : look (x.drop p) = lookAt x p := rfl
      rw [hlk] at hf
      generalize (lookAt x p).point = pt at hf hpts'
      generalize (lookAt x p).size = sz at hf hla hnx
      generalize decide ((lookAt x p).st ≠ 2) = bo at hf
      have hf' := Lib.hid hf
      have hsz : p + sz ≤ n := by have := hn'.out; omega
      have hsz1 := hla.2
      have hnb := hb.size
      clear hf hpre hv hb hla hpl hpts hlk hll
      go_wp2_with (first
        | (go_at_call 69; refine hf'.out.mono ?_; rintro e w2 ⟨rfl, hb2⟩; have hb2' := Lib.hid hb2; have hv2 := Lib.hid (hv'.out.below hb2); have hnew := Lib.hid (Has.new w2 119 #[.int .i64 (p : Int), .int .i64 (pt : Int)]); clear hb2)
        | (at_builtin; refine wpList_append_one rfl _ _ rfl rfl (hv2.out.below ((Below.refl _ _).alloc (Nat.le_refl _) _)) _ p pt rfl hnew.out hlen.out (by have := hb'.out.size; have := hb2'.out.size; simp; omega) ?_; intro v3 w3 hv3 hg3; have hv3' := Lib.hid hv3; have hg3' := Lib.hid hg3; clear hv3 hg3))
      refine ⟨⟨p + sz, pre ++ [p], by go_num, hsz, hnx.out, by rw [hpts'.out]; exact hv3'.out, ?_⟩, by simp [intOf]; omega⟩
      exact ((hb'.out.trans (hb2'.out.mono hnb)).alloc (by have := hb2'.out.size; omega) _).grown hg3'.out (by have := hb2'.out.size; simp; omega) (fun g e => (hv2.out.own g e).1)
    · obtain rfl : p = n := by omega
      clear hb hv hpre
      go_wp2
      go_ret
      refine ⟨_, rfl, ?_, hb'.out⟩
      have := hpre'.out
      rw [places_end (by have := hn'.out; omega), List.append_nil] at this
      rw [← this]
      exact hv'.out
end Go.Proofs.YtlcfpnegpihicaaGreatDoor

namespace Go.Proofs.YtlcfpnegpihicaaGreatDoor
open Go.RowKit

/-! ## The document's Of and Sound -/
def RefText (x : List UInt8) (w : World) (e : Ending) (w' : World) : Prop := e = .returned (.string ⟨(ofB x).toArray⟩) ∧ Below w.heap.size w w'
theorem pts_get {x : List UInt8} {ps : List Nat} {k : Nat} {p : Nat} (h : ps[k]? = some p) : (ptsOf x ps)[k]? = some (p, (lookAt x p).point) := by
  unfold ptsOf; rw [List.getElem?_map, h]; rfl
theorem conc_take (x : List UInt8) {ps : List Nat} {k p : Nat} (h : ps[k]? = some p) : conc x (ps.take (k + 1)) = conc x (ps.take k) ++ ptB (lookAt x p).point := by
  obtain ⟨hk, rfl⟩ := List.getElem?_eq_some_iff.1 h
  rw [List.take_succ_eq_append_getElem hk, conc_snoc]
  show _ ++ told (x.drop _) = _
  rw [told_pt]; rfl
theorem ptB_len (p : Nat) : (ptB p).length ≤ 4 := by unfold ptB; (repeat' split) <;> simp
set_option maxRecDepth 100000 in
set_option maxHeartbeats 2000000 in
theorem refOf_any (A : Option Addr) (x : List UInt8) (n c : Nat) (w : World) (h : Rd w (· < w.heap.size) A x) (hn : n = x.length) (hc : n ≤ c) (hc' : c ≤ 9223372036854775807) (hl : n ≤ 1099511627) :
    Calls Tryz.prog 56 #[.slice A n c] w (RefText x w) := by
  have hall := Lib.hid (all_anyU A x n c w h hn hc hc' hl)
  have hpl := places_len x 0
  have hcp := Lib.hid (conc_places x)
  obtain ⟨ps, hps⟩ : ∃ ps, placesFrom x 0 = ps := ⟨_, rfl⟩
  unfold AllOf at hall
  rw [hps] at hall hpl hcp
  have hm1 : (ptsOf x ps).length = ps.length := by simp [ptsOf]
  obtain ⟨m, hm⟩ : ∃ m, ps.length = m := ⟨_, rfl⟩
  have hm' := Lib.hid hm
  have hmb : m ≤ 1099511627 := by omega
  rw [hm] at hm1
  have hm1' := Lib.hid hm1
  clear h hn hps hpl hm1 hm
  go_enter Tryz.func56, Tryz.ntmps56
  go_wp2_with (go_at_call 48; refine hall.out.mono ?_; rintro e w2 ⟨v2, rfl, hv2, hb2⟩; obtain ⟨A2, c2, rfl, hin⟩ := hv2.shape; rw [hm1'.out]; have hin' := Lib.hid hin; have hb2' := Lib.hid hb2; clear hv2 hin hb2)
  go_loopw [3, 5] (fun v i W => ∃ k : Nat, i = .int .i64 (k : Int) ∧ k ≤ m ∧ Bs W w2.heap.size v (conc x (ps.take k)) ∧ Below w2.heap.size w2 W) (fun _ i _ => m - (intOf i).toNat)
  case atStart => exact ⟨0, rfl, by omega, bs_nil _ _, Below.refl _ _⟩
  case round =>
    obtain ⟨k, rfl, hk, hv, hb⟩ := hrel
    have hb' := Lib.hid hb
    have hv' := Lib.hid hv
    by_cases hlt : k < m
    · obtain ⟨p, hp⟩ : ∃ p, ps[k]? = some p := ⟨ps[k]'(by have := hm'.out; omega), List.getElem?_eq_getElem (by have := hm'.out; omega)⟩
      obtain ⟨g, hA, hg1, hg2, hcell⟩ := (hin'.out.below hb) (by have := hm1'.out; omega)
      subst hA
      have hc1 := (hcell k _ (pts_get hp)).2
      have hct := conc_take x hp
      have hbl := Lib.hid (show (conc x (ps.take k)).length + (ptB (lookAt x p).point).length ≤ 140737488355328 from by
        have h1 := conc_len x (ps.take k)
        have h2 := ptB_len (lookAt x p).point
        rw [List.length_take] at h1
        omega)
      have hpt := look_isPt (x.drop p)
      have hpe : (look (x.drop p)).point = (lookAt x p).point := rfl
      rw [hpe] at hpt
      generalize (lookAt x p).point = pt at hc1 hct hbl hpt
      have hct' := Lib.hid hct
      have hby := Lib.hid (fun W => refBytes_any (pt : Int) pt W rfl hpt)
      have hnb := hb.size
      have hki : (k : Int) < (m : Int) := by omega
      clear hv hb hcell hct hpe hp
      go_wp2_with (first
        | (go_at_call 50; refine (hby.out _).mono ?_; rintro e w4 ⟨v4, rfl, hv4, hb4⟩; obtain ⟨A4, c4, rfl, hr4⟩ := hv4.shape; have hr4' := Lib.hid hr4; have hb4' := Lib.hid hb4; have hv5 := Lib.hid (hv'.out.below hb4); have hnb4 := hb4.size; clear hv4 hr4 hb4)
        | (at_builtin; refine wpList_append_rd rfl _ _ rfl rfl hv5.out _ A4 _ _ c4 rfl rfl hr4'.out hbl.out (by omega) ?_; intro v6 w6 hv6 hg6; have hv6' := Lib.hid hv6; have hg6' := Lib.hid hg6; clear hv6 hg6))
      refine ⟨⟨k + 1, by go_num, by omega, by rw [hct'.out]; exact hv6'.out, ?_⟩, by simp [intOf]; omega⟩
      exact (hb'.out.trans (hb4'.out.mono hnb)).grown hg6'.out (by omega) (fun g e => (hv5.out.own g e).1)
    · obtain rfl : k = m := by omega
      obtain ⟨A4, c4, rfl, hr4⟩ := hv.shape
      have hcv := hr4.text (P := Tryz.prog) 22 9 5 c4 Tryz.underlying22 Tryz.underlying5 Tryz.underlying9
      rw [List.take_of_length_le (by have := hm'.out; omega), hcp.out] at hcv
      have hle : (conc x (ps.take k)).length = (ofB x).length := by rw [List.take_of_length_le (by have := hm'.out; omega), hcp.out]
      rw [hle]
      clear hb hv hr4
      go_wp2
      go_ret
      exact ⟨rfl, hb2'.out.trans (hb'.out.mono hb2'.out.size)⟩
/-! ## A text's bytes -/
theorem str_bytes (W : World) (s : ByteArray) (hs : s.size ≤ maxLen) : ∃ c W', (convert 9 22 (.string s)).run Tryz.prog W = .ok (.slice (some ⟨W.heap.size, 0, none⟩) s.size c) W' ∧ Rd W' (· = W.heap.size) (some ⟨W.heap.size, 0, none⟩) s.data.toList ∧ Below W.heap.size W W' ∧ W'.heap.size = W.heap.size + 1 ∧ s.size ≤ c ∧ c ≤ 9223372036854775807 := by
  refine ⟨grownCap W s.size 0 5, _, run_bytes_of_string W _ _ 5 s Tryz.underlying9 Tryz.underlying22 Tryz.underlying5, ?_, ?_, by simp, grownCap_ge _ _ _ _, ?_⟩
  · refine fun _ => ⟨_, rfl, rfl, fun j u hu => ?_⟩
    obtain ⟨hj, rfl⟩ := byts_get hu
    rw [add_zero_, Nat.zero_add]
    refine (cell_of_row _ W.heap.size j _ 5 _ (World.alloc_heap_new W.drew _)).trans ?_
    have hj' : j < s.data.size := by simpa using hj
    unfold bytesRow
    rw [Array.getElem?_append_left (by simpa using hj'), Array.getElem?_map, Array.getElem?_eq_getElem hj']
    rfl
  · exact (Below.refl W.heap.size W).drew.alloc (Nat.le_refl _) _
  · have := grownCap_le_maxLen W s.size 0 5 hs
    unfold maxLen at this
    omega
set_option maxRecDepth 100000 in
theorem refSound_any (s : ByteArray) (w : World) (hs : s.size ≤ 1099511627) : Calls Tryz.prog 37 #[.string s] w fun e w' => e = .returned (.bool (soundB s.data.toList)) ∧ Below w.heap.size w w' := by
  obtain ⟨c, w1, hcv, hr, hb, hz, hc1, hc2⟩ := str_bytes w s (by unfold maxLen; omega)
  have hof := Lib.hid (refOf_any _ _ s.size c w1 (hr.mono (S' := (· < w1.heap.size)) (fun b hb => by have hb : b = w.heap.size := hb; omega)) (by simp) hc1 hc2 (by omega))
  have hb' := Lib.hid hb
  clear hr hb hz
  go_enter Tryz.func37, Tryz.ntmps37
  go_wp2_with (go_at_call 56; refine hof.out.mono ?_; rintro e w2 ⟨rfl, hb2⟩)
  go_ret
  refine ⟨ret_boolU ?_, hb'.out.trans (hb2.mono hb'.out.size)⟩
  unfold soundB SoundL
  rw [ByteArray.toList_eq]
  rw [Bool.eq_iff_iff, beq_iff_eq]
  exact ⟨fun h => decide_eq_true h, fun h => of_decide_eq_true h⟩
end Go.Proofs.YtlcfpnegpihicaaGreatDoor
