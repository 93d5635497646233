import Derived.Test.YtnpifkbndpgabaaDoorK
namespace Go.Proofs.YtnpifkbndpgabaaDoor
open Go.RowKit Go.Shelf
attribute [local go_sem] Oper.semAt_some
attribute [local go_sem] wide_fn wide_depth wide_round

/-! ## What is told of none -/
theorem deed_one {W : World} {S : Nat → Prop} {b : Nat} {d : Deed} (h : Has W b 36 #[.int .i64 d.what, .int .i64 d.n, d.a.val, d.b.val]) (hb : S b) (hd : DeedOk W S d) : Deeds W S (some ⟨b, 0, none⟩) [d] :=
  ⟨fun _ => ⟨b, 0, rfl, hb, fun i x hx => by
    match i, hx with
    | 0, hx => cases hx; exact ⟨h.cell 0, h.cell 1, h.cell 2, h.cell 3⟩⟩, fun x hx => by rw [List.mem_singleton.1 hx]; exact hd⟩
theorem DeedOk.kept {W W' : World} {S : Nat → Prop} {d : Deed} (h : DeedOk W S d) (k : Kept S W W') : DeedOk W' S d := ⟨h.1.kept k, h.2.1.kept k, h.2.2⟩
theorem DeedOk.mono {W : World} {S S' : Nat → Prop} {d : Deed} (h : DeedOk W S d) (k : ∀ b, S b → S' b) : DeedOk W S' d := ⟨⟨h.1.1.mono k, h.1.2⟩, ⟨h.2.1.1.mono k, h.2.1.2⟩, h.2.2⟩

theorem NoQ.below {W W' : World} {v : Option Addr} (h : NoQ W v) (hb : Below W.heap.size W W') : NoQ W' v := by
  rcases h with h | ⟨g, h, c⟩
  · exact .inl h
  · exact .inr ⟨g, h, (hb.cell (p := ⟨g, 4, none⟩) (World.block_lt_of_cell? W _ c)).trans c⟩
/-- A range over no byte goes on behind it. -/
theorem wpIn_range_empty {n : Nat} (h1 : 2 ≤ n) {g : Operand} {ps : Array Tmp} {assign body : Code} {Q : Exit → Act → World → Prop} {a : Act} {w : World} {k r : Nat} (hps : 2 = ps.size)
    (hg : a.eval g = .func (.func 35) #[] #[.pointer (some ⟨k, 0, none⟩)]) (h : SeqB w k r []) (hr : r < w.heap.size)
    (hrest : ∀ (D : Nat) (W : World), w.heap.size ≤ D → Below w.heap.size w W → NoCalls W D → Q .normal { a with defers := { target := .collected D, args := #[] } :: a.defers } W) :
    (Code.rangeFunc g ps assign body).wpIn Fence.wide n Tryd.prog Q a w := by
  have hk := h.lt
  refine wpIn_rangeFunc_ownG rfl (by omega) (gf := 35) (lb := #[.pointer (some ⟨k, 0, none⟩)]) hg trivial (enters_of Tryd.func35 (by kernel_rfl) rfl)
    (each_stops (n - 1) (by omega) [] k r w h) Kept.trans (kept_b (fun b e => by omega)) (Below.refl _ _) (fun _ => hps)
    (fun _ W => Below w.heap.size w W) (fun _ _ _ => False) (ownFrom_below (Nat.le_refl _) (Nat.le_refl _)) (fun _ _ _ _ _ hs _ _ => hs) (Below.refl _ _)
    (fun x => x.elim0) (fun l x => x.elim0) (fun l pre x => x.elim0)
    (fun D xs W hD _ hI hk => hrest D W hD hI hk) (fun D c pre W _ _ hI _ => hI.elim)

set_option maxRecDepth 100000 in
set_option maxHeartbeats 4000000 in
theorem lawNone (d : Deed) (zero : Bool) (w : World) (hd : DeedOk w (· < w.heap.size) d) (hT : Tab w) :
    Calls Tryd.prog 5 #[.agg #[.int .i64 d.what, .int .i64 d.n, d.a.val, d.b.val], .bool zero] w fun e w' => e = .returned (.bool true) ∧ Below w.heap.size w w' := by
  refine (callsIn_wide (n := 3)).1 ?_
  refine callsIn_of_wp_marks Tryd.func5 rfl trivial ?_ rfl
  refine wpIn_wide.2 ?_
  simp only [Tryd.ntmps5, List.size_toArray, List.length_cons, List.length_nil, Nat.reduceAdd, Nat.reduceSub, Array.replicate_succ, Array.replicate_zero, List.push_toArray, List.append_toArray, List.nil_append, List.cons_append]
  have hd' := Lib.hid hd
  have hT' := Lib.hid hT
  clear hd hT
  simp only [Part.val]
  have hnil : ∀ (fn : Fn) (f c : Array Value) (w : World), Sem.run Tryd.prog (binOp BinOp.eql 52 (Value.func fn f c) Value.nilFunc) w = .ok (.bool false) w := fun _ _ _ _ => by kernel_rfl
  go_wp2_with fail
  obtain ⟨x0, x1, x2, xz, xb⟩ := lit_two w #[.int .i64 d.what, .int .i64 d.n, .slice d.a.A d.a.l.length d.a.c, .slice d.b.A d.b.l.length d.b.c] #[.bool false] #[.int .i64 d.what, .int .i64 d.n, .slice d.a.A d.a.l.length d.a.c, .slice d.b.A d.b.l.length d.b.c] 36 4 36 (0, 0) (0, 0)
  generalize (((w.alloc (.cells #[.int .i64 d.what, .int .i64 d.n, .slice d.a.A d.a.l.length d.a.c, .slice d.b.A d.b.l.length d.b.c] 36)).alloc (.cells #[.bool false] 4)).alloc (.cells #[.int .i64 d.what, .int .i64 d.n, .slice d.a.A d.a.l.length d.a.c, .slice d.b.A d.b.l.length d.b.c] 36)) = w2 at x0 x1 x2 xz xb ⊢
  have hT2 : Hid (Tab w2) := hT'.out.below xb hT'.out.lt
  have hd2 : Hid (DeedOk w2 (· < w.heap.size) d) := hd'.out.kept (fun k hk => xb.block k hk)
  have hds := Lib.hid (deed_one (d := d) (S := (· < w2.heap.size)) (b := w.heap.size + 1 + 1) x2 (by omega) (hd2.out.mono (fun b hb => by omega)))
  have b0 : Hid (Has w2 w.heap.size _ _) := x0
  have b1 : Hid (Has w2 (w.heap.size + 1) _ _) := x1
  have xz := Lib.hid xz
  have xb := Lib.hid xb
  clear x0 x1 x2
  refine (few_any (some ⟨w.heap.size + 1 + 1, 0, none⟩) (· < w2.heap.size) [d] 1 1 1 w2 hds.out rfl (by omega) (by omega)).mono ?_
  rintro e w3 ⟨rfl, q, rfl⟩
  cases hf : fewB 1 [d] with
  | false =>
    have b1' : Hid (Has (w2.drewN q) (w.heap.size + 1) _ _) := b1.out
    have hb' : Hid (Below w.heap.size w (w2.drewN q)) := below_draws xb.out q
    have hT3 : Hid (Tab (w2.drewN q)) := hT2.out
    clear hf
    generalize w2.drewN q = w3 at b1' hb' hT3 ⊢
    go_wp2_with fail
    refine (works_any _ hT3.out).mono ?_
    rintro e w4 ⟨rfl, hb4⟩
    have b4 := Lib.hid (b1'.out.below hb4 b1'.out.lt)
    have hB4 := Lib.hid (hb'.out.trans (hb4.mono hb'.out.size))
    have c4 : w4.cell? ⟨w.heap.size + 1, 0, none⟩ = some (.bool false) := b4.out.cell 0
    have f4 : w4.frozen? ⟨w.heap.size + 1, 0, none⟩ = false := b4.out.free 0
    clear hb4
    go_wp2
    have c5 := (b4.out.put 0 (.bool true)).cell 0
    exact ⟨.bool true, by simp [results, Tryd.results5, go_sem, c5], rfl, hB4.out.setCell (by simp) _⟩
  | true =>
    have hlen : d.a.l.length + d.b.l.length ≤ 300 := by
      have := of_decide_eq_true hf
      exact this.2 d List.mem_cons_self
    have b0' : Hid (Has (w2.drewN q) w.heap.size _ _) := b0.out
    have b1' : Hid (Has (w2.drewN q) (w.heap.size + 1) _ _) := b1.out
    have hb' : Hid (Below w.heap.size w (w2.drewN q)) := below_draws xb.out q
    have z' : Hid ((w2.drewN q).heap.size = w.heap.size + 3) := xz.out
    clear hf b0 b1 xb xz hds hd2 hT2
    generalize w2.drewN q = w3 at b0' b1' hb' z' ⊢
    have ci : w3.cell? ⟨w.heap.size, 1, none⟩ = some (.int .i64 d.n) := b0'.out.cell 1
    have hlt3 : w.heap.size < w3.heap.size := by have := z'.out; omega
    have tok : True := trivial
    cases zero
    case' false =>
      have hq : Hid (NoQ w3 none) := .inl rfl
      have hB3 := Lib.hid hb'.out
      go_wp2_with fail
    case' true =>
      have ci' := ci
      go_wp2_with fail
      have hq : Hid (NoQ (w3.alloc (.cells #[.slice none 0 0, .int .i64 0, .int .i64 0, .int .i64 0, .bool false] 46)) (some ⟨w3.heap.size, 0, none⟩)) := .inr ⟨_, rfl, (Has.new w3 _ _).cell 4⟩
      have b0'' := Lib.hid (b0'.out.alloc (.cells #[.slice none 0 0, .int .i64 0, .int .i64 0, .int .i64 0, .bool false] 46))
      have b1'' := Lib.hid (b1'.out.alloc (.cells #[.slice none 0 0, .int .i64 0, .int .i64 0, .int .i64 0, .bool false] 46))
      have hB3 := Lib.hid (hb'.out.alloc (by have := z'.out; omega) (.cells #[.slice none 0 0, .int .i64 0, .int .i64 0, .int .i64 0, .bool false] 46))
      clear ci ci' b0' b1' hb'
      generalize w3.alloc (.cells #[.slice none 0 0, .int .i64 0, .int .i64 0, .int .i64 0, .bool false] 46) = w4 at hq b0'' b1'' hB3 ⊢
      have b0' := b0''
      have b1' := b1''
      clear b0'' b1''
      have ci := b0'.out.cell 1
    all_goals
      refine (take_no _ d.n 1 (.inl rfl) _ (asked_none _ d.n _ hq.out)).1.mono ?_
      rintro e w' ⟨rfl, rfl⟩
      go_wp2_with fail
      refine (take_no _ d.n 1 (.inl rfl) _ (asked_none _ d.n _ hq.out)).2.1.mono ?_
      rintro e w' ⟨rfl, rfl⟩
      go_wp2_with fail
      refine (take_no _ d.n 1 (.inl rfl) _ (asked_none _ d.n _ hq.out)).2.2.mono ?_
      rintro e w' ⟨rfl, rfl⟩
      go_wp2_with fail
      refine (all_none _ _ hq.out).mono ?_
      rintro e w5 ⟨k, r, rfl, hsq, hk, hr, hrl, hB5⟩
      have b5 := Lib.hid (b0'.out.below hB5 b0'.out.lt)
      have c5 := Lib.hid (b1'.out.below hB5 b1'.out.lt)
      have hq5 := Lib.hid (hq.out.below hB5)
      have hB5' := Lib.hid (hB3.out.trans (hB5.mono hB3.out.size))
      clear b0' b1' hB3 hB5 hq ci hlt3 z'
      go_wp2
      refine (wpIn_wide (n := 3)).1 ?_
      refine wpIn_range_empty (by omega) rfl rfl hsq hrl ?_
      intro D1 w6 hD1 hB6 hK1
      have b6 := Lib.hid (b5.out.below hB6 b5.out.lt)
      have c6 := Lib.hid (c5.out.below hB6 c5.out.lt)
      have hq6 := Lib.hid (hq5.out.below hB6)
      have hK1' := Lib.hid hK1
      have hB6' := Lib.hid (hB5'.out.trans (hB6.mono hB5'.out.size))
      have hT6 : Hid (Tab w6) := hT'.out.below hB6'.out hT'.out.lt
      have hdl := Lib.hid (Nat.lt_of_lt_of_le c5.out.lt hD1)
      have hD6 := Lib.hid hK1.lt
      clear b5 c5 hq5 hK1 hB5' hB6 hsq hk hr hrl hD1
      go_wp2_with fail
      refine (new_ok 500 w6 hT6.out (by omega)).mono ?_
      intro e w7 hm
      obtain rfl := hm.1
      have ch7 := Lib.hid (hm.chain hB6'.out)
      have B67 := Lib.hid hm.2.2.1
      have hlt7 := Lib.hid (show w6.heap.size < w7.heap.size by have := hm.2.2.2; omega)
      clear hm hT6
      go_wp2_with fail
      refine (all_any w6.heap.size w6.heap.size 500 [] w7 ch7.out.q).mono ?_
      rintro e w8 ⟨k2, r2, rfl, hsq, hk2, hr2, hrl2, hB8⟩
      have ch8 := Lib.hid (ch7.out.below hB8)
      have B68 := Lib.hid (B67.out.trans (hB8.mono B67.out.size))
      have hsq8 := Lib.hid hsq
      have ca : w8.cell? ⟨w.heap.size, 2, none⟩ = some (.slice d.a.A d.a.l.length d.a.c) := (b6.out.below B68.out b6.out.lt).cell 2
      have hwl : w.heap.size < w8.heap.size := (b6.out.below B68.out b6.out.lt).lt
      clear hB8 hsq ch7 B67
      go_wp2_with fail
      obtain ⟨x0, x1, xz, xb⟩ := lit_one w8 #[.int .u8 1] #[.slice d.a.A d.a.l.length d.a.c, .slice (some ⟨w8.heap.size, 0, none⟩) 1 1] 5 30 (0, 0)
      have hg8 := ch8.out.q.lt
      have hda : Sound ((w8.alloc (.cells #[.int .u8 1] 5)).alloc (.cells #[.slice d.a.A d.a.l.length d.a.c, .slice (some ⟨w8.heap.size, 0, none⟩) 1 1] 30)) (fun k => k < w.heap.size ∨ (w8.heap.size ≤ k ∧ k < w8.heap.size + 2)) d.a :=
        ⟨(hd'.out.1.kept (fun k hk => (ch8.out.b.trans (xb.mono ch8.out.b.size)).block k hk)).1.mono (fun b hb => .inl hb), hd'.out.1.2⟩
      have hps := parts_two (S := fun k => k < w.heap.size ∨ (w8.heap.size ≤ k ∧ k < w8.heap.size + 2)) (b := w8.heap.size + 1) (p := d.a) (p' := ⟨some ⟨w8.heap.size, 0, none⟩, [1], 1⟩) (cell_of_row _ _ 0 _ _ _ x1) (cell_of_row _ _ 1 _ _ _ x1) (.inr ⟨by omega, by omega⟩) hda
        ⟨rd_row (l := [1]) x0 (.inr ⟨Nat.le_refl _, by omega⟩), by simp, by simp⟩
      refine (push_chain (np := 2) (cp := 2) ch8.out xb hps (fun k hk => by have := ch8.out.gge; omega) rfl (by omega) (by simp [tot]; omega)).mono ?_
      rintro e w9 ⟨rfl, r9, ch9, hr9, hT9⟩
      have B69 := Lib.hid (B68.out.trans (hT9.below (Nat.le_refl _) (Nat.le_refl _) B68.out.size))
      have ch9' := Lib.hid ch9
      have hsq9 : SeqB w9 k2 r2 [] := hsq8.out.kept (hT9.block k2 hsq8.out.lt (by have := hlt7.out; omega) (by have := hlt7.out; omega)) (hT9.block r2 hrl2 (by have := hlt7.out; omega) (by have := hlt7.out; omega))
      have hrl9 : r2 < w9.heap.size := Nat.lt_of_lt_of_le hrl2 hT9.size
      have hsq9' := Lib.hid hsq9
      clear ca hwl x0 x1 xz xb hg8 hda hps ch9 hr9 hT9 hsq8 ch8 B68 hk2 hr2 hrl2 hlt7 hsq9
      go_wp2
      refine (wpIn_wide (n := 3)).1 ?_
      refine wpIn_range_empty (by omega) rfl rfl hsq9'.out hrl9 ?_
      intro D2 w10 hD2 hB10 hK2
      have B610 := Lib.hid (B69.out.trans (hB10.mono B69.out.size))
      have ch10 := Lib.hid (ch9'.out.below hB10)
      have hK2' := Lib.hid hK2
      have hne := Lib.hid (show D1 < D2 by have := hD6.out; have := B69.out.size; omega)
      have ca : w10.cell? ⟨w.heap.size, 2, none⟩ = some (.slice d.a.A d.a.l.length d.a.c) := (b6.out.below B610.out b6.out.lt).cell 2
      clear hB10 hK2 B69 ch9' hsq9' hrl9 hD2
      go_wp2_with (first | (go_at_call 10; refine (num_any _ _).mono ?_; rintro e w' ⟨rfl, rfl⟩))
      have xb := (Below.refl w10.heap.size w10).alloc (Nat.le_refl _) (.cells #[.slice d.a.A d.a.l.length d.a.c] 30)
      have B611 := Lib.hid (B610.out.trans (xb.mono B610.out.size))
      have ch11 := Lib.hid (ch10.out.below xb)
      have hK11 := Lib.hid (hK2'.out.below xb hK2'.out.lt)
      clear xb ca ch10 hK2' B610
      generalize w10.alloc (.cells #[.slice d.a.A d.a.l.length d.a.c] 30) = w11 at B611 ch11 hK11 ⊢
      have hq11 := Lib.hid (hq6.out.below B611.out)
      have hB11 := Lib.hid (hB6'.out.trans (B611.out.mono hB6'.out.size))
      have hT11 : Hid (Tab w11) := hT'.out.below hB11.out hT'.out.lt
      have s1 := Lib.hid (same_none _ none w11 hq11.out (.inl rfl))
      have s2 := Lib.hid (same_half w6.heap.size r9 500 _ _ w11 ch11.out.q hq11.out)
      refine (push_none _ _ _ hq11.out).mono ?_
      rintro e w' ⟨rfl, rfl⟩
      go_wp2_with (first | (go_at_call 10; refine (num_any _ _).mono ?_; rintro e w' ⟨rfl, rfl⟩) | (go_at_call 20; refine (len_none _ _ hq11.out).mono ?_; rintro e w' ⟨rfl, rfl⟩) | (go_at_call 21; refine (room_none _ _ hq11.out).mono ?_; rintro e w' ⟨rfl, rfl⟩) |
        (go_at_call 13; refine (copy_none _ _ hq11.out).mono ?_; rintro e w' ⟨rfl, rfl⟩) | (go_at_call 14; (with_reducible refine s1.out.mono ?_); rintro e w' ⟨rfl, rfl⟩) | (go_at_call 14; (with_reducible refine s2.out.mono ?_); rintro e w' ⟨rfl, rfl⟩))
      refine (works_any w11 hT11.out).mono ?_
      rintro e w12 ⟨rfl, hb12⟩
      have B612 := Lib.hid (B611.out.trans (hb12.mono B611.out.size))
      have c12 := c6.out.below B612.out c6.out.lt
      have e12 : w12.cell? ⟨w.heap.size + 1, 0, none⟩ = some (.bool false) := c12.cell 0
      have f12 : w12.frozen? ⟨w.heap.size + 1, 0, none⟩ = false := c12.free 0
      have g12 := Lib.hid (c12.put 0 (.bool true))
      have k2 := Lib.hid ((hK11.out.below hb12 hK11.out.lt).set (i := 0) c12 (.bool true))
      have k1 := Lib.hid (((hK1'.out.below B612.out hK1'.out.lt)).set (i := 0) c12 (.bool true))
      have hB12 := Lib.hid ((hB6'.out.trans (B612.out.mono hB6'.out.size)).setCell (p := ⟨w.heap.size + 1, 0, none⟩) (by simp) (.bool true))
      clear c12 hb12 s1 s2
      go_wp2
      have k1' := k1.out.put (.deferred none) (show D1 ≠ D2 by have := hne.out; omega)
      refine ⟨by simp, .inl ⟨_, _, rfl, run_takeDeferred k2.out, ⟨by simp, .inl ⟨_, _, rfl, run_takeDeferred k1', ?_⟩⟩⟩⟩
      have g13 := ((g12.out.put_obj (.deferred none) (l := D2) (by have := hne.out; have := hdl.out; omega)).put_obj (.deferred none) (l := D1) (by have := hdl.out; omega)).cell 0
      refine ⟨.bool true, by simp [results, Tryd.results5, go_sem, g13], rfl, ?_⟩
      exact (hB12.out.trans (belowK_b (w := w) (Nat.le_refl _) _ D2 _ _ (by have := hne.out; have := hdl.out; omega) k2.out rfl rfl)).trans (belowK_b (w := w) (Nat.le_refl _) _ D1 _ _ (by have := hdl.out; omega) k1' rfl rfl)
end Go.Proofs.YtnpifkbndpgabaaDoor
