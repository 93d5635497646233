import Derived.Test.YthdmmlaahjgijaaDoorLnB
import Derived.BigRegion
import Derived.Maps.AppendAt
import Derived.Deep.RegionHeld3
namespace Go.Proofs.YthdmmlaahjgijaaDoor
open Go.RowKit Go.Shelf

/-! ## What a splitter's doings change -/
/-- Below n0 all is as it was, but for S; from n0 on rows of bytes may turn. -/
structure Tn (n0 : Nat) (S : Nat → Prop) (a b : World) : Prop where
  os : b.os = a.os
  tape : b.tape = a.tape
  output : b.output = a.output
  size : a.heap.size ≤ b.heap.size
  low : ∀ k, k < n0 → k < a.heap.size → ¬ S k → b.heap[k]? = a.heap[k]?
  high : ∀ k o, a.heap[k]? = some o → ¬ S k → (∀ cs, o ≠ .cells cs 5 (0, 0)) → b.heap[k]? = some o
section
variable {n0 : Nat} {S : Nat → Prop} {a b c : World}
theorem Tn.refl (n0 : Nat) (S : Nat → Prop) (a : World) : Tn n0 S a a := ⟨rfl, rfl, rfl, Nat.le_refl _, fun _ _ _ _ => rfl, fun _ _ h _ _ => h⟩
theorem Tn.trans (h : Tn n0 S a b) (k : Tn n0 S b c) : Tn n0 S a c :=
  ⟨k.os.trans h.os, k.tape.trans h.tape, k.output.trans h.output, Nat.le_trans h.size k.size, fun i hi hl hn => (k.low i hi (Nat.lt_of_lt_of_le hl h.size) hn).trans (h.low i hi hl hn), fun i o ho hn hc => k.high i o (h.high i o ho hn hc) hn hc⟩
theorem Tn.has {k : Nat} {t : TypeId} {cs : Array Value} (h : Tn n0 S a b) (hk : ¬ S k) (ht : k < n0 ∨ t ≠ 5) (hh : Has a k t cs) : Has b k t cs := by
  rcases ht with ht | ht
  · exact (h.low k ht hh.lt hk).trans hh
  · exact h.high k _ hh hk (fun cs' e => ht (by injection e))
theorem Tn.of_below (h : Below a.heap.size a b) : Tn n0 S a b := ⟨h.os, h.tape, h.output, h.size, fun k _ hl _ => h.block k hl, fun k __o ho _ _ => (h.block k (Array.getElem?_eq_some_iff.1 ho).1).trans ho⟩
theorem Tn.below {B : Nat} (h : Tn n0 S a b) (hS : ∀ k, S k → B ≤ k) (hB : B ≤ n0) (hBa : B ≤ a.heap.size) : Below B a b := ⟨h.os, h.tape, h.output, h.size, fun k hk => h.low k (by omega) (by omega) (fun hs => by have := hS k hs; omega)⟩
theorem Tn.grown {v : Value} {l : List UInt8} (h : Tn n0 S a b) (hv : Bs b n0 v l) (hg : b.grownBy c v.ownBlock) : Tn n0 S a c :=
  h.trans ⟨hg.os, hg.tape, hg.output, hg.size, fun k hk hl _ => hg.block k hl (fun e => by have := (hv.own k e.symm).1; omega), fun k o ho _ hc => (hg.block k (Array.getElem?_eq_some_iff.1 ho).1 (fun e => by
    obtain ⟨_, cs, hh⟩ := hv.own k e.symm
    exact hc cs (Option.some.inj (ho.symm.trans hh)))).trans ho⟩
theorem Tn.setCell (h : Tn n0 S a b) {k i : Nat} (hk : S k) (u : Value) : Tn n0 S a (b.setCell ⟨k, i, none⟩ u) :=
  h.trans ⟨rfl, rfl, rfl, by simp, fun j _ _ hn => Below.heap_setCell _ ⟨k, i, none⟩ _ j (fun e => hn (e ▸ hk)), fun j o ho hn _ => (Below.heap_setCell _ ⟨k, i, none⟩ _ j (fun e => hn (e ▸ hk))).trans ho⟩
end

/-! ## An append that tells which row is the new one -/
theorem run_append_rd_at {w : World} {n0 : Nat} {v : Value} {l : List UInt8} (hv : Bs w n0 v l) (S : Nat → Prop) (A : Option Addr) (x : List UInt8) (c : Nat) (hx : Rd w S A x) (hs : l.length + x.length ≤ 140737488355328) (hn : n0 ≤ w.heap.size) (ty : TypeId) :
    ∃ v' w', (Builtin.append_ #[22, 22] ty #[v, .slice A x.length c]).run Tryd.prog w = .ok v' w' ∧ Bs w' n0 v' (l ++ x) ∧ w.grownBy w' v.ownBlock ∧ (v'.ownBlock = v.ownBlock ∨ v'.ownBlock = some w.heap.size) := by
  obtain ⟨i, hi, hz, hz1, hz2⟩ := info_parts infoB
  have nothing : x = [] → ∃ v' w', (Builtin.append_ #[22, 22] ty #[v, .slice A x.length c]).run Tryd.prog w = .ok v' w' ∧ Bs w' n0 v' (l ++ x) ∧ w.grownBy w' v.ownBlock ∧ (v'.ownBlock = v.ownBlock ∨ v'.ownBlock = some w.heap.size) := by
    rintro rfl
    have hl : Bs w n0 v (l ++ []) := by rw [List.append_nil]; exact hv
    have hg : w.grownBy w v.ownBlock := ⟨rfl, rfl, rfl, Nat.le_refl _, fun _ _ _ => rfl⟩
    rcases hv.2 with ⟨rfl, h0⟩ | ⟨g, cap, cur, rfl, hb, hh, hnc, hcm, _⟩
    · refine ⟨_, w, ?_, hl, hg, .inl rfl⟩
      cases A <;> simp [Builtin.append_, run_underlying Tryd.underlying22, sizeOf, typeInfo, hi, Builtin.lenOf, Builtin.firstCells]
      all_goals
        have h0 := run_loadCells_list (P := Tryd.prog) w ‹Addr› [] (by simp)
        simp only [List.length_nil] at h0
        simp [h0]
    · refine ⟨_, w, ?_, hl, hg, .inl rfl⟩
      cases A <;> simp [Builtin.append_, run_underlying Tryd.underlying22, sizeOf, typeInfo, hi, Builtin.lenOf, Builtin.firstCells, hnc, storeCells]
      all_goals
        have h0 := run_loadCells_list (P := Tryd.prog) w ‹Addr› [] (by simp)
        simp only [List.length_nil] at h0
        simp [h0, storeCells]
  rcases Nat.eq_zero_or_pos x.length with h0 | h0
  · exact nothing (List.eq_nil_of_length_eq_zero h0)
  · obtain ⟨ad, rfl, _, hc⟩ := hx h0
    obtain ⟨v', w', hrun, h2, h3, _, h5⟩ := run_append_own_at (P := Tryd.prog) w n0 22 ty 5 i (.int .u8 0) 1 1 Tryd.underlying22 hi hz hz1 hz2 rfl (by decide) v l.length (byts l) hv ad x.length c (byts x) (by simp [byts_length]) hc (byts_one x) (by simp only [maxLen]; omega) (by omega) hn
    refine ⟨v', w', hrun, ?_, h3, h5⟩
    unfold Bs
    rw [List.length_append, byts_append]
    exact h2
section
variable {w : World} {ops : Array Oper} {rest : List Oper} {o : Oper} {a : Act} {Q : Exit → Act → World → Prop} {n0 : Nat} {v : Value} {l : List UInt8}
theorem wpList_append_rd_at (hgd : o.guard = none) (s x : Operand) (ho : o.op = .call { callee := .builtin .append, args := #[s, x], argTypes := #[22, 22] }) (hsv : a.eval s = v) (hv : Bs w n0 v l)
    (S : Nat → Prop) (A : Option Addr) (y : List UInt8) (m c : Nat) (hm : m = y.length) (hxv : a.eval x = .slice A m c) (hx : Rd w S A y) (hs : l.length + y.length ≤ 140737488355328) (hn : n0 ≤ w.heap.size)
    (h : ∀ v' w', Bs w' n0 v' (l ++ y) → w.grownBy w' v.ownBlock → (v'.ownBlock = v.ownBlock ∨ v'.ownBlock = some w.heap.size) → wpList Tryd.prog ops Q rest (a.put o.dst v') w') : wpList Tryd.prog ops Q (o :: rest) a w := by
  subst hm
  refine wpList_plain hgd fun K hK => ?_
  obtain ⟨v', w', hrun, h2, h3, h5⟩ := run_append_rd_at hv S A y c hx hs hn o.type
  unfold Oper.wp execOp
  simp only [ho, resolve, invoke, builtin, Sem.run_bind, Sem.run_pure, Result.andThen_ok, List.map_toArray, List.map_cons, List.map_nil, hsv, hxv, hrun]
  exact hK _ _ (h v' w' h2 h3 h5)
end

/-! ## Bytes put to the line under way -/
theorem chg_set {S : Nat → Prop} {w : World} {k i : Nat} (hk : S k) (u : Value) (W : World) (h : W = w.setCell ⟨k, i, none⟩ u := by rfl) : Chg S w W := by
  subst h
  exact ⟨rfl, rfl, rfl, by simp, fun j _ hn => Below.heap_setCell _ ⟨k, i, none⟩ _ j (fun e => hn (e ▸ hk))⟩
def Added (sp n0 most : Nat) (pp mm : Value) (ob : Option Nat) (any half : Bool) (u : List UInt8) (long : Bool) (b : List UInt8) (w : World) (e : Ending) (w' : World) : Prop :=
  (∃ v, e = .returned v) ∧ (∃ vb, Has w' sp 90 #[pp, .bool any, vb, .bool (addB most u long b).2, mm, .bool half] ∧ Bs w' n0 vb (addB most u long b).1 ∧ (vb.ownBlock = none ∨ vb.ownBlock = ob ∨ vb.ownBlock = some w.heap.size)) ∧ Chg (fun k => k = sp ∨ ob = some k) w w'
set_option maxRecDepth 100000 in
theorem add_long (sp n0 most : Nat) (pp mm vb : Value) (any half long : Bool) (u b : List UInt8) (B : Option Addr) (n c : Nat) (w : World) (hs : Has w sp 90 #[pp, .bool any, vb, .bool long, mm, .bool half]) (hv : Bs w n0 vb u)
    (hn : n = b.length) (hl : long = true ∨ most < u.length + n) (hm : most ≤ 65536) (hu : u.length ≤ 65536) (hb : n ≤ 1099511627776) :
    Calls Tryd.prog 78 #[.pointer (some ⟨sp, 2, none⟩), .int .i64 (most : Int), .slice B n c] w (Added sp n0 most pp mm vb.ownBlock any half u long b w) := by
  obtain ⟨ob, hob⟩ : ∃ ob, vb.ownBlock = ob := ⟨_, rfl⟩
  rw [hob]
  obtain ⟨A, cb, rfl, _⟩ := hv.shape
  have e2 := hs.cell 2
  have e3 := hs.cell 3
  have f2 := hs.free 2
  have f3 := hs.free 3
  have hs' := Lib.hid hs
  have hab : Hid (addB most u long b = ([], true)) := Lib.hid (by unfold addB; rw [if_pos (by rw [← hn]; exact hl)])
  have hend : Hid (∀ e, (∃ v, e = Ending.returned v) → Added sp n0 most pp mm ob any half u long b w e ((w.setCell ⟨sp, 2, none⟩ (.slice none 0 0)).setCell ⟨sp, 3, none⟩ (.bool true))) := Lib.hid (fun e he => by
    refine ⟨he, ⟨.slice none 0 0, ?_, ?_, .inl rfl⟩, (chg_set (.inl rfl) _ _).trans (chg_set (.inl rfl) _ _)⟩
    · rw [hab.out]
      simpa using (hs'.out.put 2 (.slice none 0 0)).put 3 (.bool true)
    · rw [hab.out]
      exact bs_nil _ _)
  clear hs hv hn hob
  have hui : (u.length : Int) ≤ 65536 := by omega
  generalize u.length = ul at *
  cases long with
  | true =>
    go_enter Tryd.func78, Tryd.ntmps78
    go_wp2
    go_end0
    exact hend.out _ ⟨_, rfl⟩
  | false =>
    have hli : (most : Int) - (ul : Int) < (n : Int) := by simp at hl; omega
    go_enter Tryd.func78, Tryd.ntmps78
    go_wp2
    go_end0
    exact hend.out _ ⟨_, rfl⟩
set_option maxRecDepth 100000 in
theorem add_more (sp n0 most : Nat) (pp mm vb : Value) (any half : Bool) (u b : List UInt8) (B : Option Addr) (n c : Nat) (S : Nat → Prop) (w : World) (hs : Has w sp 90 #[pp, .bool any, vb, .bool false, mm, .bool half]) (hv : Bs w n0 vb u) (hn0 : n0 ≤ w.heap.size) (hr : Rd w S B b)
    (hn : n = b.length) (hl : u.length + n ≤ most) (hm : most ≤ 65536) :
    Calls Tryd.prog 78 #[.pointer (some ⟨sp, 2, none⟩), .int .i64 (most : Int), .slice B n c] w (Added sp n0 most pp mm vb.ownBlock any half u false b w) := by
  obtain ⟨ob, hob⟩ : ∃ ob, vb.ownBlock = ob := ⟨_, rfl⟩
  rw [hob]
  have hvb := hv
  obtain ⟨A, cb, rfl, _⟩ := hv.shape
  have e2 := hs.cell 2
  have e3 := hs.cell 3
  have hs' := Lib.hid hs
  have hv' := Lib.hid hvb
  have hr' := Lib.hid hr
  have hn' := Lib.hid hn
  have hab : Hid (addB most u false b = (u ++ b, false)) := Lib.hid (by unfold addB; rw [if_neg (fun h => h.elim (fun h => by cases h) (fun h => by omega))])
  have hul : Hid (u.length + b.length ≤ 140737488355328) := Lib.hid (by omega)
  have hob' := Lib.hid hob
  clear hs hv hvb hr hn hob
  obtain ⟨m5, hm5⟩ : ∃ m5, Hid ((u ++ b).length = m5) := ⟨_, rfl⟩
  obtain ⟨ul, hule⟩ : ∃ ul, u.length = ul := ⟨_, rfl⟩
  rw [hule] at hl e2 hs' hv' hob'
  have hli : ¬ (most : Int) - (ul : Int) < (n : Int) := by omega
  have hui : (ul : Int) ≤ 65536 := by omega
  clear hule
  go_enter Tryd.func78, Tryd.ntmps78
  go_wp2_with (first
    | (at_builtin; refine wpList_append_rd_at rfl _ _ rfl rfl hv'.out _ B b n c hn'.out rfl hr'.out hul.out hn0 ?_; intro v5 w5 hv5 hg5 ho5; have hv5c := Lib.hid hv5; have ho5' := Lib.hid ho5; obtain ⟨A5, c5, rfl, _⟩ := hv5.shape; rw [hm5.out] at hv5c ho5' ⊢; have hs5 : Has w5 sp _ _ := (hg5.block sp hs'.out.lt (fun e => by obtain ⟨_, cs, hh⟩ := hv'.out.own sp e.symm; exact Has.apart hs'.out hh (by decide) rfl)).trans hs'.out; have e5 := hs5.cell 2; have f5 := hs5.free 2; have hs5' := Lib.hid hs5; have hg5' := Lib.hid hg5; clear hs5 hv5 hg5 ho5)
    | fail)
  go_end0
  refine ⟨⟨_, rfl⟩, ⟨.slice A5 m5 c5, ?_, ?_, ?_⟩, ?_⟩
  · rw [hab.out]
    simpa using hs5'.out.put 2 (.slice A5 m5 c5)
  · rw [hab.out]
    exact hv5c.out.kept (fun g hg => Below.heap_setCell _ ⟨sp, 2, none⟩ _ g (fun e => by
      obtain ⟨_, cs, hh⟩ := hv5c.out.own g hg
      exact Has.apart hs5'.out hh (by decide) e.symm))
  · rcases ho5'.out with h | h
    · exact .inr (.inl (h.trans hob'.out))
    · exact .inr (.inr h)
  · have hg : Chg (fun k => k = sp ∨ ob = some k) w w5 := ⟨hg5'.out.os, hg5'.out.tape, hg5'.out.output, hg5'.out.size, fun k hk hn => hg5'.out.block k hk (fun e => hn (.inr (hob'.out.symm.trans e.symm)))⟩
    exact hg.trans (chg_set (.inl rfl) _ _)
theorem add_any (sp n0 most : Nat) (pp mm vb : Value) (any half long : Bool) (u b : List UInt8) (B : Option Addr) (n c : Nat) (S : Nat → Prop) (w : World) (hs : Has w sp 90 #[pp, .bool any, vb, .bool long, mm, .bool half]) (hv : Bs w n0 vb u) (hn0 : n0 ≤ w.heap.size) (hr : Rd w S B b)
    (hn : n = b.length) (hm : most ≤ 65536) (hu : u.length ≤ 65536) (hb : n ≤ 1099511627776) :
    Calls Tryd.prog 78 #[.pointer (some ⟨sp, 2, none⟩), .int .i64 (most : Int), .slice B n c] w (Added sp n0 most pp mm vb.ownBlock any half u long b w) := by
  by_cases hl : long = true ∨ most < u.length + n
  · exact add_long sp n0 most pp mm vb any half long u b B n c w hs hv hn hl hm hu hb
  · cases long with
    | true => exact absurd (.inl rfl) hl
    | false => exact add_more sp n0 most pp mm vb any half u b B n c S w hs hv hn0 hr hn (by omega) hm
end Go.Proofs.YthdmmlaahjgijaaDoor
namespace Go.Proofs.YthdmmlaahjgijaaDoor
open Go.RowKit Go.Shelf

/-! ## The line under way, as a line -/
theorem line_any (sp n0 : Nat) (pp mm vb : Value) (any half long : Bool) (u : List UInt8) (w : World) (hs : Has w sp 90 #[pp, .bool any, vb, .bool long, mm, .bool half]) (hv : Bs w n0 vb u) :
    Calls Tryd.prog 64 #[.pointer (some ⟨sp, 2, none⟩)] w fun e w' => e = .returned (.agg #[.string ⟨u.toArray⟩, .bool long]) ∧ Below w.heap.size w w' := by
  obtain ⟨A, cb, rfl, hr⟩ := hv.shape
  obtain ⟨m, hm⟩ : ∃ m, u.length = m := ⟨_, rfl⟩
  have hall : Hid (∀ W, Below w.heap.size w W → W.cell? ⟨sp, 2, none⟩ = some (.slice A m cb) ∧ W.cell? ⟨sp, 3, none⟩ = some (.bool long) ∧ (convert 22 9 (.slice A m cb)).run Tryd.prog W = .ok (.string ⟨u.toArray⟩) W) := Lib.hid (fun W hb => by
    refine ⟨?_, (hs.below hb hs.lt).cell 3, ?_⟩
    · rw [← hm]; exact (hs.below hb hs.lt).cell 2
    · have := (hr.kept (Kept.below hb (fun b h => h.2))).text (P := Tryd.prog) 22 9 5 cb Tryd.underlying22 Tryd.underlying5 Tryd.underlying9
      rwa [hm] at this)
  have hb1 := (Below.refl w.heap.size w).alloc (Nat.le_refl _) (.cells #[.string ⟨#[]⟩, .bool false] 70)
  have hbd := Lib.hid hb1.drew
  have hbs := Lib.hid (fun x y => (((Below.refl w.heap.size w).alloc (Nat.le_refl _) (.cells #[x, y] 70)).drew))
  have k2 := (Has.new w 70 #[.string ⟨u.toArray⟩, .bool long]).drew
  have x0 := k2.cell 0
  have x1 := k2.cell 1
  clear hs hv hr hm hb1 k2
  go_enter Tryd.func64, Tryd.ntmps64
  go_wp2_with fail
  go_region_held3 (fun W => W.cell? ⟨sp, 2, none⟩ = some (.slice A m cb) ∧ W.cell? ⟨sp, 3, none⟩ = some (.bool long) ∧ (convert 22 9 (.slice A m cb)).run Tryd.prog W = .ok (.string ⟨u.toArray⟩) W)
    (first
    | with_reducible exact hall.out _ hbd.out
    | with_reducible exact hall.out _ (hbs.out _ _)
    | fail)
    (first | fail)
  all_goals
    go_wp2
    refine bodyPost_ret (v := .agg #[.string ⟨u.toArray⟩, .bool long]) (by simp [results, Tryd.results64, go_sem, x0, x1]) rfl ⟨rfl, hbs.out _ _⟩
end Go.Proofs.YthdmmlaahjgijaaDoor
