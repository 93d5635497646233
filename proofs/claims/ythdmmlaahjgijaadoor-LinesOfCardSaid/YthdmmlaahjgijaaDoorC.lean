import Derived.Test.YthdmmlaahjgijaaDoorB
namespace Go.Proofs.YthdmmlaahjgijaaDoor
open Go.RowKit

/-! ## Which lead byte a byte is, which one a point has -/
def LeadOf (k : Nat) (w : World) (e : Ending) (w' : World) : Prop := e = .returned (.tuple #[.agg (if k = 9 then zeroRow else rowV k), .bool (decide (k ≠ 9))]) ∧ Below w.heap.size w w'
/-- Four cells written, one behind the other. -/
def putFour (W : World) (k : Nat) (a b c d : Value) : World := (((W.setCell ⟨k, 0, none⟩ a).setCell ⟨k, 1, none⟩ b).setCell ⟨k, 2, none⟩ c).setCell ⟨k, 3, none⟩ d
theorem Has.put4 {W : World} {k : Nat} {t : TypeId} {x y z u : Value} (h : Has W k t #[x, y, z, u]) (a b c d : Value) : Has (putFour W k a b c d) k t #[a, b, c, d] := by
  have := (((h.put 0 a).put 1 b).put 2 c).put 3 d
  unfold putFour
  simpa using this
theorem below_put4 {B : Nat} {w W : World} (h : Below B w W) {k : Nat} (hk : B ≤ k) (a b c d : Value) : Below B w (putFour W k a b c d) :=
  (((h.setCell (p := ⟨k, 0, none⟩) hk a).setCell (p := ⟨k, 1, none⟩) hk b).setCell (p := ⟨k, 2, none⟩) hk c).setCell (p := ⟨k, 3, none⟩) hk d
theorem kOf_none {b : Nat} (h : ∀ m, m < 9 → kOf b ≠ m) : kOf b = 9 := by
  have := kOf_le b
  rcases Nat.lt_or_ge (kOf b) 9 with h' | h'
  · exact absurd rfl (h _ h')
  · omega
set_option maxRecDepth 100000 in
set_option maxHeartbeats 1000000 in
theorem leadOf_any (b : Nat) (w : World) (hT : Tab w) : Calls Tryd.prog 73 #[.int .u8 (b : Int)] w (LeadOf (kOf b) w) := by
  have hT1 : Tab (w.alloc (.cells #[.int .i64 0, .int .i64 0, .int .u8 0, .int .i64 0] 102)) := hT.below ((Below.refl _ _).alloc (Nat.le_refl _) _)
  go_enter Tryd.func73, Tryd.ntmps73
  go_wp2_with (refine wpList_load_mid rfl 122 _ rfl 0 0 rfl leadsCells (.array 9 102) hT1.range Tryd.underlying122 rfl (by kernel_rfl) ?_)
  go_loopw [7] (fun i wr => ∃ k : Nat, k ≤ 9 ∧ i = .int .i64 k ∧ (∀ m, m < k → kOf b ≠ m) ∧ Below w.heap.size w wr ∧ Has wr w.heap.size 102 zeroRow) (fun i _ => 9 - (intOf i).toNat)
  case atStart => exact ⟨0, by omega, rfl, fun m h => absurd h (by omega), (Below.refl _ _).alloc (Nat.le_refl _) _, Has.new _ _ _⟩
  case round =>
    obtain ⟨k, hk, rfl, hno, hb, hz⟩ := hrel
    have hno' := Lib.hid hno
    have hb' := Lib.hid hb
    have hz' := Lib.hid hz
    clear hno hb hz
    have hblt := hz'.out.lt
    have hl := hz'.out
    unfold zeroRow at hl
    by_cases hlt : k < 9
    · have hx := lead_at hlt wr
      obtain ⟨hb1, hz1, hT2⟩ : Below w.heap.size w (wr.alloc (.cells (rowV k) 102)) ∧ Has (wr.alloc (.cells (rowV k) 102)) w.heap.size 102 zeroRow ∧ True := ⟨hb'.out.alloc hb'.out.size _, hz'.out.alloc _, trivial⟩
      have hc := takes_any k b 0 ((wr.alloc (.cells (rowV k) 102))) hlt (Nat.zero_le _)
      rw [takes_lead hlt] at hc
      have hc' := Lib.hid hc
      have hb1' := Lib.hid hb1
      have hz1' := Lib.hid hz1
      clear hc hb1 hz1 hT2 hl
      have hrow : rowV k = rowV k := rfl
      conv at hrow => rhs; unfold rowV
      have hrow' := Lib.hid hrow
      clear hrow
      rw [hrow'.out] at hx hc' hz1' hb1'
      generalize leastN k = ln at *
      generalize mostN k = mn at *
      generalize (markN k : Int) = kn at *
      generalize (moreN k : Int) = rn at *
      have hk0 : (k : Int) < 9 := by omega
      by_cases hkb : kOf b = k
      · have hd : decide (kOf b = k) = true := by simpa using hkb
        rw [hd] at hc'
        clear hd
        have hkb' := Lib.hid hkb
        clear hkb
        go_wp2_with (go_at_call 74; refine (hc'.out).mono ?_; rintro e w1 ⟨rfl, hbw⟩; have hz2 := hz1'.out.below hbw hz1'.out.lt; unfold zeroRow at hz2; have c0 := hz2.cell 0; have c1 := hz2.cell 1; have c2 := hz2.cell 2; have c3 := hz2.cell 3; have f0 := hz2.free 0; have f1 := hz2.free 1; have f2 := hz2.free 2; have f3 := hz2.free 3; obtain ⟨hcc, hff⟩ := bcell hbw; have hbw' := Lib.hid hbw; have hz2' := Lib.hid hz2; clear hz2 hbw)
        have hz3 := hz2'.out.put4 (.int .i64 ln) (.int .i64 mn) (.int .u8 kn) (.int .i64 rn)
        have hB3 := below_put4 (hb1'.out.trans (hbw'.out.mono hb1'.out.size)) (Nat.le_refl _) (.int .i64 ln) (.int .i64 mn) (.int .u8 kn) (.int .i64 rn)
        unfold putFour at hz3 hB3
        generalize (((w1.setCell _ _).setCell _ _).setCell _ _).setCell _ _ = w3 at hz3 hB3 ⊢
        have d0 := hz3.cell 0
        have d1 := hz3.cell 1
        have d2 := hz3.cell 2
        have d3 := hz3.cell 3
        refine bodyPost_ret (v := .tuple #[.agg #[.int .i64 ln, .int .i64 mn, .int .u8 kn, .int .i64 rn], .bool true]) (by simp [results, Tryd.results73, go_sem, d0, d1, d2, d3]) rfl ⟨?_, hB3⟩
        have hk9 : k ≠ 9 := by omega
        rw [hkb'.out, if_neg hk9, hrow'.out]
        simp [hk9]
      · have hd : decide (kOf b = k) = false := by simpa using hkb
        rw [hd] at hc'
        clear hd
        have hkb' := Lib.hid hkb
        clear hkb
        go_wp2_with (go_at_call 74; refine (hc'.out).mono ?_; rintro e w1 ⟨rfl, hbw⟩; have hbw' := Lib.hid hbw; clear hbw)
        refine ⟨⟨k + 1, by omega, by go_num, fun m hm => ?_, hb1'.out.trans (hbw'.out.mono hb1'.out.size), hz1'.out.below hbw'.out hz1'.out.lt⟩, by simp [intOf]; omega⟩
        rcases Nat.lt_or_ge m k with h' | h'
        · exact hno'.out m h'
        · obtain rfl : m = k := by omega
          exact hkb'.out
    · obtain rfl : k = 9 := by omega
      have h9 := Lib.hid (kOf_none hno'.out)
      have c0 := hl.cell 0
      have c1 := hl.cell 1
      have c2 := hl.cell 2
      have c3 := hl.cell 3
      have f0 := hl.free 0
      have f1 := hl.free 1
      have f2 := hl.free 2
      have f3 := hl.free 3
      clear hl
      go_wp2
      have hz3 := (show Has wr w.heap.size 102 #[.int .i64 0, .int .i64 0, .int .u8 0, .int .i64 0] from hz'.out).put4 (.int .i64 0) (.int .i64 0) (.int .u8 0) (.int .i64 0)
      have hB3 := below_put4 hb'.out (Nat.le_refl _) (.int .i64 0) (.int .i64 0) (.int .u8 0) (.int .i64 0)
      unfold putFour at hz3 hB3
      generalize (((wr.setCell _ _).setCell _ _).setCell _ _).setCell _ _ = w3 at hz3 hB3 ⊢
      have d0 := hz3.cell 0
      have d1 := hz3.cell 1
      have d2 := hz3.cell 2
      have d3 := hz3.cell 3
      refine bodyPost_ret (v := .tuple #[.agg #[.int .i64 0, .int .i64 0, .int .u8 0, .int .i64 0], .bool false]) (by simp [results, Tryd.results73, go_sem, d0, d1, d2, d3]) rfl ⟨?_, hB3⟩
      rw [h9.out, if_pos rfl]
      rfl

/-- In which row a point stands. -/
def kPt (n : Int) : Nat := if n < 0 then 9 else if n < 128 then 0 else if n < 2048 then 1 else if n < 4096 then 2 else if n < 53248 then 3 else if n < 55296 then 4 else if n < 57344 then 9 else if n < 65536 then 5 else if n < 262144 then 6 else if n < 1048576 then 7 else if n < 1114112 then 8 else 9
theorem kPt_row (n : Int) : kPt n = 0 ∧ 0 ≤ n ∧ n ≤ 127 ∨ kPt n = 1 ∧ 128 ≤ n ∧ n ≤ 2047 ∨ kPt n = 2 ∧ 2048 ≤ n ∧ n ≤ 4095 ∨ kPt n = 3 ∧ 4096 ≤ n ∧ n ≤ 53247 ∨ kPt n = 4 ∧ 53248 ≤ n ∧ n ≤ 55295 ∨ kPt n = 5 ∧ 57344 ≤ n ∧ n ≤ 65535 ∨
    kPt n = 6 ∧ 65536 ≤ n ∧ n ≤ 262143 ∨ kPt n = 7 ∧ 262144 ≤ n ∧ n ≤ 1048575 ∨ kPt n = 8 ∧ 1048576 ≤ n ∧ n ≤ 1114111 ∨ kPt n = 9 ∧ (n < 0 ∨ 55296 ≤ n ∧ n ≤ 57343 ∨ 1114112 ≤ n) := by
  unfold kPt
  (repeat' split) <;> omega
theorem kPt_in {n : Int} {k : Nat} (hk : k < 9) : kPt n = k ↔ leastN k ≤ n ∧ n ≤ mostN k := by
  have hks : k = 0 ∨ k = 1 ∨ k = 2 ∨ k = 3 ∨ k = 4 ∨ k = 5 ∨ k = 6 ∨ k = 7 ∨ k = 8 := by omega
  have hr := kPt_row n
  have key : ∀ a b : Int, leastN k = a → mostN k = b → (kPt n = k ↔ a ≤ n ∧ n ≤ b) → (kPt n = k ↔ leastN k ≤ n ∧ n ≤ mostN k) := by rintro a b rfl rfl h; exact h
  generalize kPt n = q at hr key ⊢
  rcases hks with rfl | rfl | rfl | rfl | rfl | rfl | rfl | rfl | rfl
  · exact key 0 127 rfl rfl (by omega)
  · exact key 128 2047 rfl rfl (by omega)
  · exact key 2048 4095 rfl rfl (by omega)
  · exact key 4096 53247 rfl rfl (by omega)
  · exact key 53248 55295 rfl rfl (by omega)
  · exact key 57344 65535 rfl rfl (by omega)
  · exact key 65536 262143 rfl rfl (by omega)
  · exact key 262144 1048575 rfl rfl (by omega)
  · exact key 1048576 1114111 rfl rfl (by omega)
theorem kPt_le (n : Int) : kPt n ≤ 9 := by unfold kPt; (repeat' split) <;> omega
theorem kPt_none {n : Int} (h : ∀ m, m < 9 → kPt n ≠ m) : kPt n = 9 := by
  have := kPt_le n
  rcases Nat.lt_or_ge (kPt n) 9 with h' | h'
  · exact absurd rfl (h _ h')
  · omega
theorem ne_and {a b c d : Int} {k k' : Nat} (h : k ≠ k') (e : k = k' ↔ a ≤ b ∧ c ≤ d) : b < a ∨ a ≤ b ∧ d < c := by
  have : ¬ (a ≤ b ∧ c ≤ d) := fun h' => h (e.2 h')
  omega
set_option maxRecDepth 100000 in
set_option maxHeartbeats 1000000 in
theorem leadTo_any (n : Int) (w : World) (hT : Tab w) : Calls Tryd.prog 44 #[.int .i64 n] w (LeadOf (kPt n) w) := by
  have hT1 : Tab (w.alloc (.cells #[.int .i64 0, .int .i64 0, .int .u8 0, .int .i64 0] 102)) := hT.below ((Below.refl _ _).alloc (Nat.le_refl _) _)
  go_enter Tryd.func44, Tryd.ntmps44
  go_wp2_with (refine wpList_load_mid rfl 122 _ rfl 0 0 rfl leadsCells (.array 9 102) hT1.range Tryd.underlying122 rfl (by kernel_rfl) ?_)
  go_loopw [7] (fun i wr => ∃ k : Nat, k ≤ 9 ∧ i = .int .i64 k ∧ (∀ m, m < k → kPt n ≠ m) ∧ Below w.heap.size w wr ∧ Has wr w.heap.size 102 zeroRow) (fun i _ => 9 - (intOf i).toNat)
  case atStart => exact ⟨0, by omega, rfl, fun m h => absurd h (by omega), (Below.refl _ _).alloc (Nat.le_refl _) _, Has.new _ _ _⟩
  case round =>
    obtain ⟨k, hk, rfl, hno, hb, hz⟩ := hrel
    have hno' := Lib.hid hno
    have hb' := Lib.hid hb
    have hz' := Lib.hid hz
    clear hno hb hz
    have hblt := hz'.out.lt
    have hl := hz'.out
    unfold zeroRow at hl
    by_cases hlt : k < 9
    · have hx := lead_at hlt wr
      have hb1 : Below w.heap.size w (wr.alloc (.cells (rowV k) 102)) := hb'.out.alloc hb'.out.size _
      have hz1 : Has (wr.alloc (.cells (rowV k) 102)) w.heap.size 102 zeroRow := hz'.out.alloc _
      have hiff := Lib.hid (kPt_in (n := n) hlt)
      have hb1' := Lib.hid hb1
      have hz1' := Lib.hid hz1
      clear hb1 hz1 hl
      have hrow : rowV k = rowV k := rfl
      conv at hrow => rhs; unfold rowV
      have hrow' := Lib.hid hrow
      clear hrow
      rw [hrow'.out] at hx hz1' hb1'
      have hk0 : (k : Int) < 9 := by omega
      generalize leastN k = ln at *
      generalize mostN k = mn at *
      generalize (markN k : Int) = kn at *
      generalize (moreN k : Int) = rn at *
      by_cases hkb : kPt n = k
      · obtain ⟨h1, h2⟩ := hiff.out.1 hkb
        have hkb' := Lib.hid hkb
        clear hkb
        have hz2 := hz1'.out
        have hl := hz'.out
        unfold zeroRow at hl
        have c0 := hl.cell 0
        have c1 := hl.cell 1
        have c2 := hl.cell 2
        have c3 := hl.cell 3
        have f0 := hl.free 0
        have f1 := hl.free 1
        have f2 := hl.free 2
        have f3 := hl.free 3
        clear hz2 hl
        go_wp2
        have hl := (show Has wr w.heap.size 102 #[.int .i64 0, .int .i64 0, .int .u8 0, .int .i64 0] from hz'.out).put4 (.int .i64 ln) (.int .i64 mn) (.int .u8 kn) (.int .i64 rn)
        have hB2 := below_put4 hb'.out (Nat.le_refl _) (.int .i64 ln) (.int .i64 mn) (.int .u8 kn) (.int .i64 rn)
        have hz3 := hl.alloc (.cells #[.int .i64 ln, .int .i64 mn, .int .u8 kn, .int .i64 rn] 102)
        have hB3 := hB2.alloc hB2.size (.cells #[.int .i64 ln, .int .i64 mn, .int .u8 kn, .int .i64 rn] 102)
        unfold putFour at hz3 hB3
        generalize World.alloc ((((World.setCell _ _ _).setCell _ _).setCell _ _).setCell _ _) _ = w3 at hz3 hB3 ⊢
        have d0 := hz3.cell 0
        have d1 := hz3.cell 1
        have d2 := hz3.cell 2
        have d3 := hz3.cell 3
        refine bodyPost_ret (v := .tuple #[.agg #[.int .i64 ln, .int .i64 mn, .int .u8 kn, .int .i64 rn], .bool true]) (by simp [results, Tryd.results44, go_sem, d0, d1, d2, d3]) rfl ⟨?_, hB3⟩
        have hk9 : k ≠ 9 := by omega
        rw [hkb'.out, if_neg hk9, hrow'.out]
        simp [hk9]
      · have hkb' := Lib.hid hkb
        rcases ne_and hkb hiff.out with h1 | ⟨h1, h2⟩
        · clear hkb
          have h1' : decide (ln ≤ n) = false := by simpa using h1
          go_wp2
          refine ⟨⟨k + 1, by omega, by go_num, fun m hm => ?_, hb1'.out, hz1'.out⟩, by simp [intOf]; omega⟩
          rcases Nat.lt_or_ge m k with h' | h'
          · exact hno'.out m h'
          · obtain rfl : m = k := by omega
            exact hkb'.out
        · clear hkb
          go_wp2
          refine ⟨⟨k + 1, by omega, by go_num, fun m hm => ?_, hb1'.out, hz1'.out⟩, by simp [intOf]; omega⟩
          rcases Nat.lt_or_ge m k with h' | h'
          · exact hno'.out m h'
          · obtain rfl : m = k := by omega
            exact hkb'.out
    · obtain rfl : k = 9 := by omega
      have h9 := Lib.hid (kPt_none hno'.out)
      have c0 := hl.cell 0
      have c1 := hl.cell 1
      have c2 := hl.cell 2
      have c3 := hl.cell 3
      have f0 := hl.free 0
      have f1 := hl.free 1
      have f2 := hl.free 2
      have f3 := hl.free 3
      clear hl
      go_wp2
      have hz3 := (show Has wr w.heap.size 102 #[.int .i64 0, .int .i64 0, .int .u8 0, .int .i64 0] from hz'.out).put4 (.int .i64 0) (.int .i64 0) (.int .u8 0) (.int .i64 0)
      have hB3 := below_put4 hb'.out (Nat.le_refl _) (.int .i64 0) (.int .i64 0) (.int .u8 0) (.int .i64 0)
      unfold putFour at hz3 hB3
      generalize (((wr.setCell _ _).setCell _ _).setCell _ _).setCell _ _ = w3 at hz3 hB3 ⊢
      have d0 := hz3.cell 0
      have d1 := hz3.cell 1
      have d2 := hz3.cell 2
      have d3 := hz3.cell 3
      refine bodyPost_ret (v := .tuple #[.agg #[.int .i64 0, .int .i64 0, .int .u8 0, .int .i64 0], .bool false]) (by simp [results, Tryd.results44, go_sem, d0, d1, d2, d3]) rfl ⟨?_, hB3⟩
      rw [h9.out, if_pos rfl]
      rfl
end Go.Proofs.YthdmmlaahjgijaaDoor
