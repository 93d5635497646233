import Derived.Test.YtajdlkohnafbeaaI
namespace Go.Proofs.Ytajdlkohnafbeaa
open Go.RowKit Go.Shelf
attribute [local go_sem] Oper.semAt_some
attribute [local go_sem] wide_fn wide_depth wide_round

/-! ## What is told of none -/
/-- A range over no value goes on behind it. -/
theorem wpIn_range_empty {n : Nat} (h1 : 2 ≤ n) {g : Operand} {ps : Array Tmp} {assign body : Code} {Q : Exit → Act → World → Prop} {a : Act} {w : World} {k b1 b2 s : Nat} (hps : 2 = ps.size)
    (hg : a.eval g = .func (.func 45) #[] #[.pointer (some ⟨k, 0, none⟩), .pointer (some ⟨k + 1, 0, none⟩)]) (h : SeqR w k b1 b2 s []) (hr : b1 < w.heap.size ∧ b2 < w.heap.size)
    (hrest : ∀ (D : Nat) (W : World), w.heap.size ≤ D → Below w.heap.size w W → NoCalls W D → Q .normal { a with defers := { target := .collected D, args := #[] } :: a.defers } W) :
    (Code.rangeFunc g ps assign body).wpIn Fence.wide n Try.prog Q a w := by
  have hk : ∀ b, Its k b1 b2 b → b < w.heap.size := by
    intro b hb
    obtain ⟨A, c, B, d, s1, s2, _⟩ := h
    have := s2.lt
    rcases hb with hb | hb | hb | hb <;> omega
  refine wpIn_rangeFunc_ownG rfl (by omega) (gf := 45) (lb := #[.pointer (some ⟨k, 0, none⟩), .pointer (some ⟨k + 1, 0, none⟩)]) hg trivial (enters_of Try.func45 (by kernel_rfl) rfl)
    (each_stops (n - 1) (by omega) s [] k b1 b2 w h) Kept.trans (kept_b hk) (Below.refl _ _) (fun _ => hps)
    (fun _ W => Below w.heap.size w W) (fun _ _ _ => False) (ownFrom_below (Nat.le_refl _) (Nat.le_refl _)) (fun _ _ _ _ _ hs _ _ => hs) (Below.refl _ _)
    (fun x => x.elim0) (fun l x => x.elim0) (fun l pre x => x.elim0)
    (fun D xs W hD _ hI hk => hrest D W hD hI hk) (fun D c pre W _ _ hI _ => hI.elim)
theorem SeqR.turn {W W' : World} {g r k b1 b2 s : Nat} (h : SeqR W k b1 b2 s []) (hT : Turn g r W W') (hk : k ≠ g ∧ k ≠ r ∧ k + 1 ≠ g ∧ k + 1 ≠ r) : SeqR W' k b1 b2 s [] := by
  obtain ⟨A, c, B, d, h1, h2, _, h4⟩ := h
  exact ⟨A, c, B, d, (hT.block k h1.lt hk.1 hk.2.1).trans h1, (hT.block (k + 1) h2.lt hk.2.2.1 hk.2.2.2).trans h2, fun hl => absurd hl (by simp), h4⟩
theorem new_three (w : World) : Calls Try.prog 8 #[.int .i64 3, .int .u64 5] w (Made 3 5 w) := new_ok 3 5 w (by omega) (by omega) (by omega)
theorem from_zero {g r : Nat} {w : World} (h : Rg w g r 3 5 []) : Calls Try.prog 20 #[.pointer (some ⟨g, 0, none⟩), .int .u64 0] w (FromOf 5 [] w) := from_any g r 3 5 0 0 5 [] [] w h rfl rfl rfl

set_option maxRecDepth 100000 in
set_option maxHeartbeats 4000000 in
theorem lawNone (val : Int) (i : Nat) (zero : Bool) (w : World) :
    Calls Try.prog 5 #[.int .i64 val, .int .u64 (i : Int), .bool zero] w fun e w' => e = .returned (.bool true) ∧ Below w.heap.size w w' := by
  refine (callsIn_wide (n := 3)).1 ?_
  refine callsIn_of_wp_marks Try.func5 rfl trivial ?_ rfl
  refine wpIn_wide.2 ?_
  simp only [Try.ntmps5, List.size_toArray, List.length_cons, List.length_nil, Nat.reduceAdd, Nat.reduceSub, Array.replicate_succ, Array.replicate_zero, List.push_toArray, List.append_toArray, List.nil_append, List.cons_append]
  have hnil : ∀ (fn : Fn) (f c : Array Value) (w : World), Sem.run Try.prog (binOp BinOp.eql 58 (Value.func fn f c) Value.nilFunc) w = .ok (.bool false) w := fun _ _ _ _ => by kernel_rfl
  cases zero
  case' false =>
    go_wp2_with fail
    have hq : Hid (NoR (w.alloc (.cells #[.bool false] 4)) none) := .inl rfl
    have b0 := Lib.hid (Has.new w 4 #[.bool false])
    have hB0 : Hid (Below w.heap.size w (w.alloc (.cells #[.bool false] 4))) := (Below.refl _ _).alloc (Nat.le_refl _) _
    generalize (w.alloc (.cells #[.bool false] 4)) = w1 at hq b0 hB0 ⊢
  case' true =>
    go_wp2_with fail
    have hq : Hid (NoR ((w.alloc (.cells #[.bool false] 4)).alloc (.cells #[.int .u64 0, .int .u64 0, .slice none 0 0] 50)) (some ⟨(w.alloc (.cells #[.bool false] 4)).heap.size, 0, none⟩)) := .inr ⟨_, rfl, (Has.new _ _ _).cell 2⟩
    have b0 := Lib.hid ((Has.new w 4 #[.bool false]).alloc (.cells #[.int .u64 0, .int .u64 0, .slice none 0 0] 50))
    have hB0 : Hid (Below w.heap.size w ((w.alloc (.cells #[.bool false] 4)).alloc (.cells #[.int .u64 0, .int .u64 0, .slice none 0 0] 50))) := ((Below.refl _ _).alloc (Nat.le_refl _) _).alloc (by simp) _
    rw [World.size_alloc] at hq
    generalize ((w.alloc (.cells #[.bool false] 4)).alloc (.cells #[.int .u64 0, .int .u64 0, .slice none 0 0] 50)) = w1 at hq b0 hB0 ⊢
  all_goals
    refine (put_none _ val w1 hq.out).mono ?_
    rintro e w' ⟨rfl, rfl⟩
    go_wp2_with fail
    refine (drop_none _ w1 hq.out).mono ?_
    rintro e w' ⟨rfl, rfl⟩
    go_wp2_with fail
    refine (get_none _ i w1 hq.out).mono ?_
    rintro e w' ⟨rfl, rfl⟩
    go_wp2_with fail
    refine (set_none _ i val w1 hq.out).mono ?_
    rintro e w' ⟨rfl, rfl⟩
    go_wp2_with fail
    refine (from_none _ i w1 hq.out).mono ?_
    rintro e w5 ⟨k, b1, b2, rfl, hsq, hk, hx1, hx2, hB5⟩
    have b5 := Lib.hid (b0.out.below hB5 b0.out.lt)
    have hq5 := Lib.hid (hq.out.below hB5)
    have hB5' := Lib.hid (hB0.out.trans (hB5.mono hB0.out.size))
    have hsq' := Lib.hid hsq
    have hx' := Lib.hid (And.intro hx1.2 hx2.2)
    clear b0 hB0 hB5 hq hsq hk hx1 hx2
    go_wp2
    refine (wpIn_wide (n := 3)).1 ?_
    refine wpIn_range_empty (by omega) rfl rfl hsq'.out hx'.out ?_
    intro D1 w6 hD1 hB6 hK1
    have b6 := Lib.hid (b5.out.below hB6 b5.out.lt)
    have hq6 := Lib.hid (hq5.out.below hB6)
    have hK1' := Lib.hid hK1
    have hB6' := Lib.hid (hB5'.out.trans (hB6.mono hB5'.out.size))
    have hdl := Lib.hid (Nat.lt_of_lt_of_le b5.out.lt hD1)
    have hD6 := Lib.hid hK1.lt
    clear b5 hq5 hK1 hB5' hB6 hsq' hx' hD1
    go_wp2_with fail
    refine (new_three w6).mono ?_
    rintro e w7 ⟨g, r, rfl, hR7, hg7, hr7, hB7⟩
    have ch7 : Hid (Chain w6 g r 3 5 [] w7) := ⟨hR7, hg7, hr7, hB7⟩
    have hl7 := Lib.hid hR7.lt
    clear hR7 hg7 hr7 hB7
    go_wp2_with fail
    refine (from_zero ch7.out.q).mono ?_
    rintro e w8 ⟨k2, c1, c2, rfl, hsq, hk2, hx1, hx2, hB8⟩
    have ch8 := Lib.hid (ch7.out.below hB8)
    have hsq8 := Lib.hid hsq
    have hx8 := Lib.hid (And.intro hx1.2 hx2.2)
    have hk8 : Hid (g < k2 ∧ r < k2) := by have := hl7.out; exact ⟨by omega, by omega⟩
    clear hB8 hsq hx1 hx2 hk2 ch7 hl7
    go_wp2_with fail
    refine (put_room g r 3 5 5 [] val w8 ch8.out.q rfl (by omega) (by simp)).mono ?_
    rintro e w9 ⟨rfl, hR9, hT9, hz9⟩
    have ch9 := Lib.hid (ch8.out.turn hR9 hT9)
    have hsq9 := Lib.hid (hsq8.out.turn hT9 (by have := hk8.out; omega))
    have hx9 : Hid (c1 < w9.heap.size ∧ c2 < w9.heap.size) := by have := hx8.out; exact ⟨by omega, by omega⟩
    clear hR9 hT9 hz9 ch8 hsq8 hx8 hk8
    go_wp2
    refine (wpIn_wide (n := 3)).1 ?_
    refine wpIn_range_empty (by omega) rfl rfl hsq9.out hx9.out ?_
    intro D2 w10 hD2 hB10 hK2
    have ch10 := Lib.hid (ch9.out.below hB10)
    have hK2' := Lib.hid hK2
    have hne := Lib.hid (show D1 < D2 by have := hD6.out; have := ch9.out.b.size; omega)
    have hq10 := Lib.hid (hq6.out.below ch10.out.b)
    clear hB10 hK2 ch9 hsq9 hx9 hD2 hq6
    go_wp2_with (first | (go_at_call 10; refine (num_any _ _).mono ?_; rintro e w' ⟨rfl, rfl⟩) | (go_at_call 21; refine (first_none _ _ hq10.out).mono ?_; rintro e w' ⟨rfl, rfl⟩) | (go_at_call 22; refine (next_none _ _ hq10.out).mono ?_; rintro e w' ⟨rfl, rfl⟩) | (go_at_call 23; refine (len_none _ _ hq10.out).mono ?_; rintro e w' ⟨rfl, rfl⟩) | (go_at_call 13; refine (copy_none _ _ hq10.out).mono ?_; rintro e w' ⟨rfl, rfl⟩))
    refine (same_none _ none w10 hq10.out (.inl rfl)).mono ?_
    rintro e w11 ⟨rfl, hB11⟩
    have ch11 := Lib.hid (ch10.out.below hB11)
    have hK11 := Lib.hid (hK2'.out.below hB11 hK2'.out.lt)
    have hq11 := Lib.hid (hq10.out.below hB11)
    clear hB11 ch10 hK2' hq10
    go_wp2_with fail
    refine (same_half g r 3 5 _ _ w11 ch11.out.q hq11.out).mono ?_
    rintro e w12 ⟨rfl, hB12⟩
    have ch12 := Lib.hid (ch11.out.below hB12)
    have hK12 := Lib.hid (hK11.out.below hB12 hK11.out.lt)
    clear hB12 ch11 hK11 hq11
    go_wp2_with fail
    refine (works_any w12).mono ?_
    rintro e w13 ⟨rfl, hb13⟩
    have B613 := Lib.hid (ch12.out.b.trans (hb13.mono ch12.out.b.size))
    have c13 := b6.out.below B613.out b6.out.lt
    have e13 : w13.cell? ⟨w.heap.size, 0, none⟩ = some (.bool false) := c13.cell 0
    have f13 : w13.frozen? ⟨w.heap.size, 0, none⟩ = false := c13.free 0
    have g13 := Lib.hid (c13.put 0 (.bool true))
    have k2' := Lib.hid ((hK12.out.below hb13 hK12.out.lt).set (i := 0) c13 (.bool true))
    have k1 := Lib.hid (((hK1'.out.below B613.out hK1'.out.lt)).set (i := 0) c13 (.bool true))
    have hB13 := Lib.hid ((hB6'.out.trans (B613.out.mono hB6'.out.size)).setCell (p := ⟨w.heap.size, 0, none⟩) (by simp) (.bool true))
    clear c13 hb13
    go_wp2
    have k1' := k1.out.put (.deferred none) (show D1 ≠ D2 by have := hne.out; omega)
    refine ⟨by simp, .inl ⟨_, _, rfl, run_takeDeferred k2'.out, ⟨by simp, .inl ⟨_, _, rfl, run_takeDeferred k1', ?_⟩⟩⟩⟩
    have g14 := ((g13.out.put_obj (.deferred none) (l := D2) (by have := hne.out; have := hdl.out; omega)).put_obj (.deferred none) (l := D1) (by have := hdl.out; omega)).cell 0
    refine ⟨.bool true, by simp [results, Try.results5, go_sem, g14], rfl, ?_⟩
    exact (hB13.out.trans (belowK_b (w := w) (Nat.le_refl _) _ D2 _ _ (by have := hne.out; have := hdl.out; omega) k2'.out rfl rfl)).trans (belowK_b (w := w) (Nat.le_refl _) _ D1 _ _ (by have := hdl.out; omega) k1' rfl rfl)
end Go.Proofs.Ytajdlkohnafbeaa
