import Derived.Test.YthdmmlaahjgijaaDoorAb
import Derived.Test.YthdmmlaahjgijaaDoorC
import Derived.Test.YthdmmlaahjgijaaDoorF
import Derived.Test.YthdmmlaahjgijaaDoorM
import Derived.Test.YthdmmlaahjgijaaDoorN
namespace Go.Proofs.YthdmmlaahjgijaaDoor
open Go.RowKit Go.Shelf

/-! ## The law's own words of a point -/
theorem refPoint_any (n : Int) (w : World) : Calls Tryd.prog 17 #[.int .i64 n] w fun e w' => e = .returned (.bool (decide (kPt n ≠ 9))) ∧ w = w' := by
  have hk := kPt_row n
  have hc : (n < 0) ∨ (0 ≤ n ∧ n ≤ 1114111 ∧ n < 55296) ∨ (0 ≤ n ∧ n ≤ 1114111 ∧ 55296 ≤ n ∧ 57343 < n) ∨ (0 ≤ n ∧ n ≤ 1114111 ∧ 55296 ≤ n ∧ n ≤ 57343) ∨ (0 ≤ n ∧ 1114111 < n) := by omega
  generalize kPt n = k at hk ⊢
  have hk' := Lib.hid hk
  clear hk
  rcases hc with h | ⟨h1, h2, h3⟩ | ⟨h1, h2, h3, h4⟩ | ⟨h1, h2, h3, h4⟩ | ⟨h1, h2⟩
  all_goals
    go_enter Tryd.func17, Tryd.ntmps17
    go_wp2
    go_ret
    refine ⟨ret_bool ?_, rfl⟩
    have := hk'.out
    first
      | (simp; omega)
      | (have hk9 : k = 9 := by omega
         rw [Bool.eq_iff_iff]
         simp [hk9]
         omega)
theorem byt_u8 {z : Int} {n : Nat} (h : z = n) (hn : n < 256) : Value.int .u8 z = byt (u8 n) := by
  unfold byt
  rw [u8_toNat hn, h]
theorem bs_new {w : World} {l : List UInt8} {cs : Array Value} {n : Nat} (hn : n = l.length) (hl : l.length ≤ 4) (h : cs = (byts l).toArray) : Bs (w.alloc (.cells cs 5)) w.heap.size (.slice (some ⟨w.heap.size, 0, none⟩) n n) l := by
  subst h; subst hn
  exact ⟨by rw [byts_length, Nat.mul_one], .inr ⟨w.heap.size, l.length, _, rfl, Nat.le_refl _, World.alloc_heap_new w _, Nat.le_refl _, by unfold maxLen; omega, by simp [byts], by rw [← byts_length l]; simp⟩⟩
set_option maxHeartbeats 1000000 in
theorem refBytes_any (z : Int) (n : Nat) (w : World) (hz : z = n) (hn : isPt n) : Calls Tryd.prog 18 #[.int .i64 z] w fun e w' => ∃ v, e = .returned v ∧ Bs w' w.heap.size v (ptB n) ∧ Below w.heap.size w w' := by
  unfold isPt at hn
  have hz' := Lib.hid hz
  have g0 : 0 ≤ z := by omega
  have g9 : z ≤ 1114111 := by omega
  clear hz
  by_cases h1 : n < 128
  · have g1 : z < 128 := by have := hz'.out; omega
    go_enter Tryd.func18, Tryd.ntmps18
    go_wp2
    go_ret
    refine ⟨_, rfl, ?_, (Below.refl _ _).alloc (Nat.le_refl _) _⟩
    unfold ptB
    rw [if_pos h1]
    exact bs_new rfl (by simp) (by have := hz'.out; rw [byt_u8 (n := n) (by omega) (by omega)]; rfl)
  · by_cases h2 : n < 2048
    · have g1 : 128 ≤ z := by have := hz'.out; omega
      have g2 : z < 2048 := by have := hz'.out; omega
      go_enter Tryd.func18, Tryd.ntmps18
      go_wp2
      go_ret
      refine ⟨_, rfl, ?_, (Below.refl _ _).alloc (Nat.le_refl _) _⟩
      unfold ptB
      rw [if_neg h1, if_pos h2]
      exact bs_new rfl (by simp) (by have := hz'.out; rw [byt_u8 (n := 192 + n / 64) (by omega) (by omega), byt_u8 (n := 128 + n % 64) (by omega) (by omega)]; rfl)
    · by_cases h3 : n < 65536
      · have g1 : 2048 ≤ z := by have := hz'.out; omega
        have g2 : z < 65536 := by have := hz'.out; omega
        go_enter Tryd.func18, Tryd.ntmps18
        go_wp2
        go_ret
        refine ⟨_, rfl, ?_, (Below.refl _ _).alloc (Nat.le_refl _) _⟩
        unfold ptB
        rw [if_neg h1, if_neg h2, if_pos h3]
        exact bs_new rfl (by simp) (by have := hz'.out; rw [byt_u8 (n := 224 + n / 4096) (by omega) (by omega), byt_u8 (n := 128 + n / 64 % 64) (by omega) (by omega), byt_u8 (n := 128 + n % 64) (by omega) (by omega)]; rfl)
      · have g1 : 65536 ≤ z := by have := hz'.out; omega
        go_enter Tryd.func18, Tryd.ntmps18
        go_wp2
        go_ret
        refine ⟨_, rfl, ?_, (Below.refl _ _).alloc (Nat.le_refl _) _⟩
        unfold ptB
        rw [if_neg h1, if_neg h2, if_neg h3]
        exact bs_new rfl (by simp) (by have := hz'.out; rw [byt_u8 (n := 240 + n / 262144) (by omega) (by omega), byt_u8 (n := 128 + n / 4096 % 64) (by omega) (by omega), byt_u8 (n := 128 + n / 64 % 64) (by omega) (by omega), byt_u8 (n := 128 + n % 64) (by omega) (by omega)]; rfl)
/-- A point's row, told. -/
theorem leadTo_none (n : Int) (w : World) (hT : Tab w) (h : kPt n = 9) : Calls Tryd.prog 44 #[.int .i64 n] w fun e w' => e = .returned (.tuple #[.agg #[.int .i64 0, .int .i64 0, .int .u8 0, .int .i64 0], .bool false]) ∧ Below w.heap.size w w' := by
  refine (leadTo_any n w hT).mono ?_
  rintro e w' ⟨rfl, hb⟩
  rw [h]
  exact ⟨rfl, hb⟩
theorem leadTo_row (n : Int) (w : World) (hT : Tab w) (h : kPt n < 9) : Calls Tryd.prog 44 #[.int .i64 n] w fun e w' => e = .returned (.tuple #[.agg #[.int .i64 (leastN (kPt n)), .int .i64 (mostN (kPt n)), .int .u8 (markN (kPt n) : Int), .int .i64 (moreN (kPt n) : Int)], .bool true]) ∧ Below w.heap.size w w' := by
  refine (leadTo_any n w hT).mono ?_
  rintro e w' ⟨rfl, hb⟩
  rw [if_neg (by omega), decide_eq_true (by omega)]
  exact ⟨rfl, hb⟩
set_option maxRecDepth 100000 in
theorem uBytes_none (n : Int) (w : World) (hT : Tab w) (h : kPt n = 9) : Calls Tryd.prog 16 #[.int .i64 n] w fun e w' => e = .returned (.tuple #[.slice none 0 0, .bool false]) ∧ Below w.heap.size w w' := by
  have hb1 := (Below.refl w.heap.size w).alloc (Nat.le_refl _) (.cells #[.int .u8 0, .int .u8 0, .int .u8 0, .int .u8 0] 100)
  have hl := Lib.hid (leadTo_none n _ (hT.below hb1) h)
  have hb1' := Lib.hid hb1
  clear hb1
  go_enter Tryd.func16, Tryd.ntmps16
  go_wp2
  refine wp_scope_on 0 rfl ?_
  go_wp2_with (go_at_call 44; refine hl.out.mono ?_; rintro e w2 ⟨rfl, hb2⟩)
  go_step3
  refine ⟨rfl, ?_⟩
  go_wp2
  rw [Exit.noGoto_ret]
  go_ret2
  exact ⟨rfl, (hb1'.out.trans (hb2.mono (by simp))).alloc (by have := hb1'.out.size; have := hb2.size; omega) _⟩

theorem ptB_at {p k : Nat} (hk : kPt (p : Int) = k) (h9 : k < 9) : (ptB p).length = moreN k + 1 ∧ (∀ j, j ≤ moreN k → (ptB p)[j]? = some (u8 (byteN (markN k) (moreN k) p j)) ∧ byteN (markN k) (moreN k) p j < 256) ∧ moreN k ≤ 3 ∧ p ≤ 1114111 ∧
    (markN k = 0 ∧ p / 64 ^ moreN k < 128 ∨ markN k = 192 ∧ p / 64 ^ moreN k < 32 ∨ markN k = 224 ∧ p / 64 ^ moreN k < 16 ∨ markN k = 240 ∧ p / 64 ^ moreN k < 8) := by
  have hr := kPt_row (p : Int)
  rw [hk] at hr
  have hh : (moreN k = 0 ∧ markN k = 0 ∧ p < 128 ∨ moreN k = 1 ∧ markN k = 192 ∧ 128 ≤ p ∧ p < 2048 ∨ moreN k = 2 ∧ markN k = 224 ∧ 2048 ≤ p ∧ p < 65536 ∨ moreN k = 3 ∧ markN k = 240 ∧ 65536 ≤ p) ∧ p ≤ 1114111 := by
    clear hk
    unfold moreN markN
    (repeat' split) <;> omega
  clear hr hk
  obtain ⟨h, hp⟩ := hh
  generalize moreN k = m at h ⊢
  generalize markN k = mk at h ⊢
  unfold ptB
  rcases h with ⟨rfl, rfl, h⟩ | ⟨rfl, rfl, h, h2⟩ | ⟨rfl, rfl, h, h2⟩ | ⟨rfl, rfl, h⟩
  · rw [if_pos h]
    refine ⟨rfl, fun j hj => ?_, by omega, hp, .inl ⟨rfl, by omega⟩⟩
    obtain rfl : j = 0 := by omega
    simp [byteN]; omega
  · rw [if_neg (by omega), if_pos h2]
    refine ⟨rfl, fun j hj => ?_, by omega, hp, .inr (.inl ⟨rfl, by omega⟩)⟩
    obtain rfl | rfl : j = 0 ∨ j = 1 := by omega
    all_goals (simp [byteN]; omega)
  · rw [if_neg (by omega), if_neg (by omega), if_pos h2]
    refine ⟨rfl, fun j hj => ?_, by omega, hp, .inr (.inr (.inl ⟨rfl, by omega⟩))⟩
    obtain rfl | rfl | rfl : j = 0 ∨ j = 1 ∨ j = 2 := by omega
    all_goals (simp [byteN]; omega)
  · rw [if_neg (by omega), if_neg (by omega), if_neg (by omega)]
    refine ⟨rfl, fun j hj => ?_, by omega, hp, .inr (.inr (.inr ⟨rfl, by omega⟩))⟩
    obtain rfl | rfl | rfl | rfl : j = 0 ∨ j = 1 ∨ j = 2 ∨ j = 3 := by omega
    all_goals (simp [byteN]; omega)
/-- The room, the first i bytes in it. -/
def roomL (p i : Nat) : List UInt8 := (ptB p).take i ++ List.replicate (4 - i) 0
theorem roomL_len {p i : Nat} (hi : i ≤ (ptB p).length) (h4 : (ptB p).length ≤ 4) : (roomL p i).length = 4 := by unfold roomL; simp; omega
theorem roomL_put {p i : Nat} {b : UInt8} (hi : (ptB p)[i]? = some b) (h4 : (ptB p).length ≤ 4) : (byts (roomL p i)).toArray.setIfInBounds i (byt b) = (byts (roomL p (i + 1))).toArray := by
  obtain ⟨hlt, hb⟩ := List.getElem?_eq_some_iff.1 hi
  apply Array.ext'
  simp only [Array.toList_setIfInBounds]
  unfold byts
  rw [← List.map_set]
  congr 1
  unfold roomL
  rw [List.set_append, if_neg (by simp; omega), List.take_add_one, hi]
  have : (List.take i (ptB p)).length = i := by simp; omega
  rw [this, Nat.sub_self]
  obtain ⟨m, hm⟩ : ∃ m, 4 - i = m + 1 := ⟨3 - i, by omega⟩
  rw [hm, show 4 - (i + 1) = m from by omega, List.replicate_succ]
  simp
def UOk (p : Nat) (w : World) (e : Ending) (w' : World) : Prop := ∃ A c, e = .returned (.tuple #[.slice A (ptB p).length c, .bool true]) ∧ Rd w' (fun b => w.heap.size ≤ b ∧ b < w'.heap.size) A (ptB p) ∧ Below w.heap.size w w'
def RoomIn (p : Nat) (w : World) (r : Array Value) (l i : Nat) (W : World) : Prop := Has W w.heap.size 100 (byts (roomL p i)).toArray ∧ Has W l 102 r ∧ Below w.heap.size w W
set_option maxRecDepth 100000 in
set_option maxHeartbeats 2000000 in
theorem uBytes_any (z : Int) (p : Nat) (w : World) (hT : Tab w) (hz : z = p) (h : kPt z < 9) : Calls Tryd.prog 16 #[.int .i64 z] w (UOk p w) := by
  have hb1 := (Below.refl w.heap.size w).alloc (Nat.le_refl _) (.cells #[.int .u8 0, .int .u8 0, .int .u8 0, .int .u8 0] 100)
  have hl := Lib.hid (leadTo_row z _ (hT.below hb1) h)
  have hb1' := Lib.hid hb1
  clear hb1 hT
  have hat := ptB_at (p := p) (hz ▸ rfl) h
  generalize kPt z = k at hl hat h
  have hby := fun (j : Nat) (hj : j ≤ moreN k) (W : World) => byteOf_any (leastN k) (mostN k) (markN k) (moreN k) p j W hat.2.2.1 hj hat.2.2.2.1 hat.2.2.2.2
  rw [← hz] at hby
  have hby' := Lib.hid hby
  obtain ⟨hlen, hbytes, hm3, -, -⟩ := hat
  have hlen' := Lib.hid hlen
  have hbytes' := Lib.hid hbytes
  clear hby hlen hbytes hz h
  generalize hln : leastN k = ln at hl hby'
  generalize hmn : mostN k = mn at hl hby'
  generalize hmk : ((markN k : Nat) : Int) = mk at hl hby'
  generalize hmo : moreN k = m at hl hby' hbytes' hlen' hm3
  clear hln hmn
  go_enter Tryd.func16, Tryd.ntmps16
  go_wp2
  refine wp_scope_on 0 rfl ?_
  go_wp2_with (go_at_call 44; refine hl.out.mono ?_; rintro e w2 ⟨rfl, hb2⟩)
  go_loopw [20] (fun x W => ∃ i : Nat, x = .int .i64 (i : Int) ∧ i ≤ m + 1 ∧ RoomIn p w #[.int .i64 ln, .int .i64 mn, .int .u8 mk, .int .i64 (m : Int)] w2.heap.size i W) (fun x _ => 5 - (intOf x).toNat)
  case atStart =>
    refine ⟨0, rfl, by omega, ?_, Has.new _ _ _, (hb1'.out.trans (hb2.mono (by simp))).alloc (by have := hb1'.out.size; have := hb2.size; omega) _⟩
    exact ((Has.new w _ _).below hb2 (by simp)).alloc _
  case round =>
    obtain ⟨i, rfl, hi, hR, hL, hBW⟩ := hrel
    have hR' := Lib.hid hR
    have hL' := Lib.hid hL
    have hBW' := Lib.hid hBW
    by_cases him : i ≤ m
    · have c0 := hL.cell 0
      have c1 := hL.cell 1
      have c2 := hL.cell 2
      have c3 := hL.cell 3
      have hrl := roomL_len (p := p) (i := i) (by have := hlen'.out; omega) (by have := hlen'.out; omega)
      obtain ⟨u, hu⟩ : ∃ u, (byts (roomL p i)).toArray[i]? = some u := ⟨_, Array.getElem?_eq_getElem (by simp [byts, hrl]; omega)⟩
      have r0 := (hR.cell i).trans hu
      have r1 := hR.free i
      have hlt := hR.lt
      clear hR hL hBW
      go_wp2_with (go_at_call 45; refine (hby'.out i him _).mono ?_; rintro e w5 ⟨rfl, hb5⟩; have s0 := (hb5.cell (p := ⟨w.heap.size, i, none⟩) hlt).trans r0; have s1 := (hb5.frozen (p := ⟨w.heap.size, i, none⟩) hlt).trans r1)
      have hlt2 := Nat.lt_of_lt_of_le hlt hb5.size
      have hne : w2.heap.size ≠ w.heap.size := fun h => by have := hb1'.out.size; have := hb2.size; simp at this; omega
      have hRn := (hR'.out.below hb5 hlt).put i (byt (_root_.Go.Proofs.YthdmmlaahjgijaaDoor.u8 (byteN (markN k) m p i)))
      rw [roomL_put (hbytes'.out i him).1 (by have := hlen'.out; omega)] at hRn
      rw [← byt_u8 rfl (hbytes'.out i him).2] at hRn
      exact ⟨⟨i + 1, by go_num, by omega, hRn, (hL'.out.below hb5 hL'.out.lt).other hne _, (hBW'.out.trans (hb5.mono hBW'.out.size)).setCell (Nat.le_refl _) _⟩, by simp [intOf]; omega⟩
    · obtain rfl : i = m + 1 := by omega
      have i0 : (0 : Int) ≤ (m : Int) + 1 := by omega
      have i1 : (m : Int) + 1 ≤ 4 := by omega
      clear hR hL hBW
      go_wp2
      rw [jump_ret]
      go_ret2
      have h4 := hlen'.out
      refine ⟨some ⟨w.heap.size, 0, none⟩, m + 1, by rw [h4]; rfl, ?_, hBW'.out⟩
      have hrd := (hR'.out.rd).take (m + 1)
      have hl := hR'.out.lt
      unfold roomL at hrd
      rw [List.take_append_of_le_length (by simp; omega), List.take_take, Nat.min_self, ← h4, List.take_length] at hrd
      exact hrd.mono (by rintro b rfl; exact ⟨Nat.le_refl _, hl⟩)
end Go.Proofs.YthdmmlaahjgijaaDoor
