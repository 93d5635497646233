import Derived.Test.YthdmmlaahjgijaaDoorLnQ
import Derived.Test.YthdmmlaahjgijaaDoorKj
import Derived.Deep.RegionHeld3
namespace Go.Proofs.YthdmmlaahjgijaaDoor
open Go.RowKit Go.Shelf

/-! ## Clone, Copy, Reset -/
def CloneOf (l : List UInt8) (w : World) (e : Ending) (w' : World) : Prop := ∃ v, e = .returned v ∧ Bs w' w.heap.size v l ∧ Below w.heap.size w w'
set_option maxRecDepth 100000 in
theorem cloneB_any (A : Option Addr) (l : List UInt8) (n c : Nat) (w : World) (hn : n = l.length) (hr : Rd w (· < w.heap.size) A l) (hl : n ≤ 1000000) : Calls Tryd.prog 56 #[.slice A n c] w (CloneOf l w) := by
  cases A with
  | none =>
    obtain rfl : l = [] := by
      rcases Nat.eq_zero_or_pos l.length with h | h
      · exact List.eq_nil_of_length_eq_zero h
      · obtain ⟨ad, he, _⟩ := hr h; cases he
    clear hr hn
    have hnil : ∀ (w : World), Sem.run Tryd.prog (binOp BinOp.eql 22 (Value.slice none n c) (Value.slice none 0 0)) w = .ok (.bool true) w := fun _ => by kernel_rfl
    go_enter Tryd.func56, Tryd.ntmps56
    go_wp2
    go_ret
    exact ⟨_, rfl, bs_nil _ _, Below.refl _ _⟩
  | some ad =>
    have hb1 : Below w.heap.size w (w.alloc (.cells #[] 5)) := (Below.refl _ _).alloc (Nat.le_refl _) _
    have hE := Lib.hid (empty_own w)
    have hr1 := Lib.hid (hr.kept (W' := w.alloc (.cells #[] 5)) (Kept.below hb1 (fun _ h => h)))
    have hb1' := Lib.hid hb1
    have hn' := Lib.hid hn
    have hlen : Hid (([] : List UInt8).length + l.length ≤ 140737488355328) := Lib.hid (by simp; omega)
    clear hr hb1 hn
    have hnil : ∀ (w : World), Sem.run Tryd.prog (binOp BinOp.eql 22 (Value.slice (some ad) n c) (Value.slice none 0 0)) w = .ok (.bool false) w := fun _ => by kernel_rfl
    go_enter Tryd.func56, Tryd.ntmps56
    go_wp2_with (at_builtin; refine wpList_append_rd rfl _ _ rfl rfl hE.out _ (some ad) l n c hn'.out rfl hr1.out hlen.out (by rw [World.size_alloc]; omega) ?_; intro v3 w3 hv3 hg3; have hv3' := Lib.hid hv3; have hg3' := Lib.hid hg3; clear hv3 hg3)
    go_ret
    refine ⟨_, rfl, by simpa using hv3'.out, hb1'.out.grown hg3'.out (by simp) (fun g e => (hE.out.own g e).1)⟩
set_option maxRecDepth 100000 in
theorem decApart_any (sp dp : Nat) (ws : List UInt8) (any long half : Bool) (vb mm : Value) (w : World) (hs : Has w sp 90 #[.pointer (some ⟨dp, 0, none⟩), .bool any, vb, .bool long, mm, .bool half]) (hd : Dec w dp ws) :
    Calls Tryd.prog 61 #[.pointer (some ⟨sp, 0, none⟩)] w fun e w' => ∃ d2, e = .returned (.agg #[.pointer (some ⟨d2, 0, none⟩), .bool any]) ∧ w.heap.size ≤ d2 ∧ Dec w' d2 ws ∧ Below w.heap.size w w' := by
  have hb1 : Below w.heap.size w (w.alloc (.cells #[.pointer none, .bool false] 86)) := (Below.refl _ _).alloc (Nat.le_refl _) _
  have kR := Has.new w 86 #[.pointer none, .bool false]
  obtain ⟨w1, hw1⟩ : ∃ w1, w.alloc (.cells #[.pointer none, .bool false] 86) = w1 := ⟨_, rfl⟩
  have z1 : w1.heap.size = w.heap.size + 1 := by rw [← hw1]; simp
  rw [hw1] at hb1 kR
  have hw1' := Lib.hid hw1
  have z1' := Lib.hid z1
  have hz1 : w.heap.size < w1.heap.size := by omega
  have hs1 := hs.below hb1 hs.lt
  have hd1 := hd.below hb1
  have hcp := copy_any dp ws w1.drew (hd1.kept rfl)
  have hall : Hid (∀ W : World, W.heap[sp]? = w1.heap[sp]? → W.cell? ⟨sp, 0, none⟩ = some (.pointer (some ⟨dp, 0, none⟩)) ∧ W.cell? ⟨sp, 1, none⟩ = some (.bool any)) := Lib.hid (fun W hb => by have hW : Has W sp _ _ := hb.trans hs1; exact ⟨hW.cell 0, hW.cell 1⟩)
  have hspl : sp < w.heap.size := hs.lt
  have hbd := Lib.hid (show w1.drew.heap[sp]? = w1.heap[sp]? from rfl)
  have hcp' := Lib.hid hcp
  have kR' := Lib.hid kR
  have hb1' := Lib.hid hb1
  clear hs hd hw1 z1 hb1 kR hs1 hd1 hcp
  go_enter Tryd.func61, Tryd.ntmps61
  go_upto_region 1 with (fail)
  rw [hw1'.out]
  go_region_held3 (fun W => W.cell? ⟨sp, 0, none⟩ = some (.pointer (some ⟨dp, 0, none⟩)) ∧ W.cell? ⟨sp, 1, none⟩ = some (.bool any))
    (first
    | with_reducible exact hall.out _ hbd.out
    | with_reducible exact hall.out _ hb2'.out
    | with_reducible exact hall.out _ (hb2s.out _ _)
    | fail)
    (first
    | (go_at_call 25; (with_reducible refine Calls.mono hcp'.out ?_); rintro e w2 ⟨rfl, hD2, hb2⟩; have hb2' := Lib.hid (show w2.heap[sp]? = w1.heap[sp]? from hb2.block sp (by show sp < w1.heap.size; omega)); have hb2s := Lib.hid (fun (x y : Value) => ((Below.heap_setCell (w2.setCell ⟨w.heap.size, 0, none⟩ x) ⟨w.heap.size, 1, none⟩ y sp (by show sp ≠ w.heap.size; omega)).trans (Below.heap_setCell w2 ⟨w.heap.size, 0, none⟩ x sp (by show sp ≠ w.heap.size; omega))).trans hb2'.out); have hbw2 := Lib.hid hb2; have kR2 := kR'.out.drew.below hb2 kR'.out.lt; have g0 := kR2.cell 0; have g1 := kR2.cell 1; have q0 := kR2.free 0; have q1 := kR2.free 1; have kR2' := Lib.hid kR2; have hD2' := Lib.hid hD2; clear kR2 hD2 hb2)
    | fail)
  all_goals
    go_wp2
    have k1 := (kR2'.out.put 0 (.pointer (some ⟨w1.heap.size, 0, none⟩))).put 1 (.bool any)
    have x0 := k1.cell 0
    have x1 := k1.cell 1
    refine bodyPost_ret (v := .agg #[.pointer (some ⟨w1.heap.size, 0, none⟩), .bool any]) (by simp [results, Tryd.results61, go_sem, x0, x1]) rfl ⟨w1.heap.size, rfl, by omega, ?_, ?_⟩
    · exact (hD2'.out.kept (Below.heap_setCell _ ⟨w.heap.size, 0, none⟩ _ _ (by show w1.heap.size ≠ w.heap.size; omega))).kept (Below.heap_setCell _ ⟨w.heap.size, 1, none⟩ _ _ (by show w1.heap.size ≠ w.heap.size; omega))
    · exact ((hb1'.out.trans ((show Below w1.heap.size w1 w2 from ⟨hbw2.out.os, hbw2.out.tape, hbw2.out.output, hbw2.out.size, hbw2.out.block⟩).mono (by omega))).setCell (p := ⟨w.heap.size, 0, none⟩) (Nat.le_refl _) _).setCell (p := ⟨w.heap.size, 1, none⟩) (Nat.le_refl _) _
set_option maxRecDepth 100000 in
theorem unApart_any (sp n0 : Nat) (u : List UInt8) (any long half : Bool) (pp vb mm : Value) (w : World) (hs : Has w sp 90 #[pp, .bool any, vb, .bool long, mm, .bool half]) (hv : Bs w n0 vb u) (hl : u.length ≤ 100000) :
    Calls Tryd.prog 62 #[.pointer (some ⟨sp, 2, none⟩)] w fun e w' => ∃ v2, e = .returned (.agg #[v2, .bool long]) ∧ Bs w' w.heap.size v2 u ∧ Below w.heap.size w w' := by
  obtain ⟨A, c, rfl, hr⟩ := hv.shape
  obtain ⟨m, hm⟩ : ∃ m, u.length = m := ⟨_, rfl⟩
  have hb1 : Below w.heap.size w (w.alloc (.cells #[.slice none 0 0, .bool false] 88)) := (Below.refl _ _).alloc (Nat.le_refl _) _
  have kR := Has.new w 88 #[.slice none 0 0, .bool false]
  obtain ⟨w1, hw1⟩ : ∃ w1, w.alloc (.cells #[.slice none 0 0, .bool false] 88) = w1 := ⟨_, rfl⟩
  have z1 : w1.heap.size = w.heap.size + 1 := by rw [← hw1]; simp
  rw [hw1] at hb1 kR
  rw [hm] at hs
  have hw1' := Lib.hid hw1
  have z1' := Lib.hid z1
  have hz1 : w.heap.size < w1.heap.size := by omega
  have hs1 := hs.below hb1 hs.lt
  have hr1 := hr.kept (Kept.below hb1 (fun b hb => hb.2))
  have hcl := cloneB_any A u m c w1.drew hm.symm ((hr1.kept (W' := w1.drew) (fun _ _ => rfl)).mono (fun b hb => by have := hb.2; show b < w1.heap.size; omega)) (by omega)
  have hall : Hid (∀ W : World, W.heap[sp]? = w1.heap[sp]? → W.cell? ⟨sp, 2, none⟩ = some (.slice A m c) ∧ W.cell? ⟨sp, 3, none⟩ = some (.bool long)) := Lib.hid (fun W hb => by have hW : Has W sp _ _ := hb.trans hs1; exact ⟨hW.cell 2, hW.cell 3⟩)
  have hspl : sp < w.heap.size := hs.lt
  have hbd := Lib.hid (show w1.drew.heap[sp]? = w1.heap[sp]? from rfl)
  have hcl' := Lib.hid hcl
  have kR' := Lib.hid kR
  have hb1' := Lib.hid hb1
  have hm' := Lib.hid hm
  clear hs hv hr hw1 z1 hb1 kR hs1 hr1 hcl hm
  go_enter Tryd.func62, Tryd.ntmps62
  go_upto_region 1 with (fail)
  rw [hw1'.out]
  go_region_held3 (fun W => W.cell? ⟨sp, 2, none⟩ = some (.slice A m c) ∧ W.cell? ⟨sp, 3, none⟩ = some (.bool long))
    (first
    | with_reducible exact hall.out _ hbd.out
    | with_reducible exact hall.out _ hb2'.out
    | with_reducible exact hall.out _ (hb2s.out _ _)
    | fail)
    (first
    | (go_at_call 56; (with_reducible refine Calls.mono hcl'.out ?_); rintro e w2 ⟨v2, rfl, hv2, hb2⟩; have hb2' := Lib.hid (show w2.heap[sp]? = w1.heap[sp]? from hb2.block sp (by show sp < w1.heap.size; omega)); have hb2s := Lib.hid (fun (x y : Value) => ((Below.heap_setCell (w2.setCell ⟨w.heap.size, 0, none⟩ x) ⟨w.heap.size, 1, none⟩ y sp (by show sp ≠ w.heap.size; omega)).trans (Below.heap_setCell w2 ⟨w.heap.size, 0, none⟩ x sp (by show sp ≠ w.heap.size; omega))).trans hb2'.out); have hbw2 := Lib.hid hb2; have kR2 := kR'.out.drew.below hb2 kR'.out.lt; have g0 := kR2.cell 0; have g1 := kR2.cell 1; have q0 := kR2.free 0; have q1 := kR2.free 1; have kR2' := Lib.hid kR2; obtain ⟨A2, c2, rfl, _⟩ := hv2.shape; rw [hm'.out] at hv2 ⊢; have hv2' := Lib.hid hv2; clear kR2 hv2 hb2)
    | fail)
  all_goals
    go_wp2
    have k1 := (kR2'.out.put 0 (.slice A2 m c2)).put 1 (.bool long)
    have x0 := k1.cell 0
    have x1 := k1.cell 1
    refine bodyPost_ret (v := .agg #[.slice A2 m c2, .bool long]) (by simp [results, Tryd.results62, go_sem, x0, x1]) rfl ⟨_, rfl, ?_, ?_⟩
    · have hv3 : Bs w2 w1.heap.size (.slice A2 m c2) u := hv2'.out
      exact (hv3.kept (fun g hg => (Below.heap_setCell _ ⟨w.heap.size, 1, none⟩ _ g (by show g ≠ w.heap.size; have := (hv3.own g hg).1; omega)).trans (Below.heap_setCell _ ⟨w.heap.size, 0, none⟩ _ g (by show g ≠ w.heap.size; have := (hv3.own g hg).1; omega)))).mono (by omega)
    · exact ((hb1'.out.trans ((show Below w1.heap.size w1 w2 from ⟨hbw2.out.os, hbw2.out.tape, hbw2.out.output, hbw2.out.size, hbw2.out.block⟩).mono (by omega))).setCell (p := ⟨w.heap.size, 0, none⟩) (Nat.le_refl _) _).setCell (p := ⟨w.heap.size, 1, none⟩) (Nat.le_refl _) _
def CopyOfL (nb most : Nat) (s : CSt) (w : World) (e : Ending) (w' : World) : Prop :=
  ∃ sp dp ob, e = .returned (.pointer (some ⟨sp, 0, none⟩)) ∧ w.heap.size ≤ sp ∧ w.heap.size ≤ dp ∧ SpO w' nb sp dp most ob s ∧ (∀ k, ob = some k → w.heap.size ≤ k) ∧ Below w.heap.size w w'
set_option maxRecDepth 100000 in
set_option maxHeartbeats 1000000 in
theorem copyL_any (nb sp dp most : Nat) (ob : Option Nat) (s : CSt) (w : World) (h : SpO w nb sp dp most ob s) (h1 : 1 ≤ most) (hm : most ≤ 65536) (hok : s.ok most) (hnb : nb ≤ w.heap.size) : Calls Tryd.prog 38 #[.pointer (some ⟨sp, 0, none⟩)] w (CopyOfL nb most s w) := by
  obtain ⟨vb, a1, a2, a3, a4⟩ := h
  have hnone := Lib.hid (sNone_no sp most w (a1.cell 4) h1)
  have hal := a1.lt
  have hall : Hid (∀ W : World, Below w.heap.size w W → W.cell? ⟨sp, 4, none⟩ = some (.int .i64 (most : Int)) ∧ W.cell? ⟨sp, 5, none⟩ = some (.bool s.l.half)) := Lib.hid (fun W hb => ⟨(a1.below hb hal).cell 4, (a1.below hb hal).cell 5⟩)
  have hda := Lib.hid (fun (W : World) (hb : Below w.heap.size w W) => decApart_any sp dp s.ws s.any s.l.long s.l.half vb (.int .i64 (most : Int)) W (a1.below hb hal) (a3.below hb))
  have hua := Lib.hid (fun (W : World) (hb : Below w.heap.size w W) => unApart_any sp nb s.l.bytes s.any s.l.long s.l.half (.pointer (some ⟨dp, 0, none⟩)) vb (.int .i64 (most : Int)) W (a1.below hb hal) (a2.below hb) (by have := hok.line.1; omega))
  have hbd := Lib.hid ((Below.refl w.heap.size w).drew)
  clear a1 a2 a3 a4
  go_enter Tryd.func38, Tryd.ntmps38
  go_upto_region 3 with (go_at_call 60; (with_reducible refine Calls.mono hnone.out ?_); rintro e w1 ⟨rfl, rfl⟩)
  go_region_held3 (fun W => W.cell? ⟨sp, 4, none⟩ = some (.int .i64 (most : Int)) ∧ W.cell? ⟨sp, 5, none⟩ = some (.bool s.l.half))
    (first
    | with_reducible exact hall.out _ hbd.out
    | with_reducible exact hall.out _ hbA.out
    | with_reducible exact hall.out _ hbB.out
    | with_reducible exact hall.out _ hbC.out
    | with_reducible exact hall.out _ hbDD.out
    | with_reducible exact hall.out _ (hbX.out _)
    | with_reducible exact hall.out _ (hbY.out _)
    | fail)
    (first
    | (go_at_call 61; (with_reducible refine Calls.mono (hda.out _ hbd.out) ?_); rintro e w2 ⟨d2, rfl, hd2, hD2, hb2⟩; have hbA := Lib.hid (hbd.out.trans hb2); have hD2' := Lib.hid hD2; have hd2' := Lib.hid hd2; have hb2' := Lib.hid hb2; clear hD2 hb2 hd2)
    | (go_at_call 62; (with_reducible refine Calls.mono (hua.out _ hbA.out) ?_); rintro e w3 ⟨v3, rfl, hV3, hb3⟩; have hbB := Lib.hid (hbA.out.trans (hb3.mono hbA.out.size)); have hbX := Lib.hid (fun o => hbB.out.alloc hbB.out.size o); have hV3' := Lib.hid hV3; have hb3' := Lib.hid hb3; clear hV3 hb3)
    | (go_at_call 62; (with_reducible refine Calls.mono (hua.out _ hbd.out) ?_); rintro e w2 ⟨v3, rfl, hV3, hb2⟩; have hbC := Lib.hid (hbd.out.trans hb2); have hV3' := Lib.hid hV3; have hb2' := Lib.hid hb2; clear hV3 hb2)
    | (go_at_call 61; (with_reducible refine Calls.mono (hda.out _ hbC.out) ?_); rintro e w3 ⟨d2, rfl, hd2, hD2, hb3⟩; have hbDD := Lib.hid (hbC.out.trans (hb3.mono hbC.out.size)); have hbY := Lib.hid (fun o => hbDD.out.alloc hbDD.out.size o); have hD2' := Lib.hid hD2; have hd2' := Lib.hid hd2; have hb3' := Lib.hid hb3; clear hD2 hb3 hd2)
    | fail)
  all_goals
    go_wp2
    go_ret
    have z2 := hbA.out.size
    have z3 := hbB.out.size
    have hD3 := hD2'.out.below hb3'.out
    have hal3 : Below w3.heap.size w3 (w3.alloc (.cells #[.pointer (some ⟨d2, 0, none⟩), .bool s.any, v3, .bool s.l.long, .int .i64 (most : Int), .bool s.l.half] 90)) := (Below.refl _ _).alloc (Nat.le_refl _) _
    have hzd : w.heap.size ≤ d2 := hd2'.out
    refine ⟨w3.heap.size, d2, v3.ownBlock, rfl, z3, hzd, ⟨v3, Has.new w3 _ _, (hV3'.out.below hal3).mono (by omega), hD3.below hal3, rfl⟩, fun k hk => ?_, hbB.out.trans (hal3.mono z3)⟩
    have := (hV3'.out.own k hk).1
    omega
theorem bs_none {W : World} {n0 : Nat} {v : Value} {l : List UInt8} (h : Bs W n0 v l) (hn : v.ownBlock = none) : v = .slice none 0 0 := by
  rcases h.2 with ⟨rfl, _⟩ | ⟨g, cap, cur, rfl, _⟩
  · rfl
  · cases hn
/-- It is made as new. -/
def ResetOf (sp most nb : Nat) (w : World) (e : Ending) (w' : World) : Prop := e = .returned (.int .i64 0) ∧ ∃ dp, w.heap.size ≤ dp ∧ SpO w' nb sp dp most none init0 ∧ Chg (· = sp) w w'
set_option maxRecDepth 100000 in
theorem resetL_any (nb sp dp most : Nat) (ob : Option Nat) (s : CSt) (w : World) (h : SpO w nb sp dp most ob s) (h1 : 1 ≤ most) : Calls Tryd.prog 37 #[.pointer (some ⟨sp, 0, none⟩)] w (ResetOf sp most nb w) := by
  obtain ⟨vb, a1, a2, a3, a4⟩ := h
  have hnone := Lib.hid (sNone_no sp most w (a1.cell 4) h1)
  have e4 : w.cell? ⟨sp, 4, none⟩ = some (.int .i64 (most : Int)) := a1.cell 4
  have a1' := Lib.hid a1
  have hfr := Lib.hid (fresh_any nb most w)
  have hal := a1.lt
  clear a1 a2 a3 a4
  go_enter Tryd.func37, Tryd.ntmps37
  go_wp2_with (first
    | (go_at_call 60; (with_reducible refine Calls.mono hnone.out ?_); rintro e w1 ⟨rfl, rfl⟩)
    | (go_at_call 59; (with_reducible refine Calls.mono hfr.out ?_); rintro e w1 ⟨f, rfl, d, hf, hd, ⟨v, b1, b2, b3, b4⟩, hb⟩; have hv0 := bs_none b2 b4; subst hv0; have b1 : Has w1 f 90 #[.pointer (some ⟨d, 0, none⟩), .bool false, .slice none 0 0, .bool false, .int .i64 (most : Int), .bool false] := b1; have x0 := b1.cell 0; have x1 := b1.cell 1; have x2 := b1.cell 2; have x3 := b1.cell 3; have x4 := b1.cell 4; have x5 := b1.cell 5; have ks := a1'.out.below hb hal; have y0 := ks.cell 0; have y1 := ks.cell 1; have y2 := ks.cell 2; have y3 := ks.cell 3; have y4 := ks.cell 4; have y5 := ks.cell 5; have q0 := ks.free 0; have q1 := ks.free 1; have q2 := ks.free 2; have q3 := ks.free 3; have q4 := ks.free 4; have q5 := ks.free 5; have ks' := Lib.hid ks; have b2' := Lib.hid b2; have b3' := Lib.hid b3; have hb' := Lib.hid hb; clear b1 b2 b3 b4 hb ks))
  go_ret
  have kF := (((((ks'.out.put 0 (.pointer (some ⟨d, 0, none⟩))).put 1 (.bool false)).put 2 (.slice none 0 0)).put 3 (.bool false)).put 4 (.int .i64 (most : Int))).put 5 (.bool false)
  obtain ⟨_, hdt⟩ := b3'.out.typed
  have hne : d ≠ sp := hdt.apart ks'.out (by decide)
  have hCb : Chg (· = sp) w w1 := .of_below hb'.out
  have hset : ∀ (W : World) (i : Nat) (u : Value), Dec W d [] → Dec (W.setCell ⟨sp, i, none⟩ u) d [] := fun W i u h => h.kept (Below.heap_setCell _ ⟨sp, i, none⟩ _ d hne)
  refine ⟨rfl, d, hd, ⟨.slice none 0 0, by simpa [init0] using kF, bs_nil _ _, hset _ _ _ (hset _ _ _ (hset _ _ _ (hset _ _ _ (hset _ _ _ (hset _ _ _ b3'.out))))), rfl⟩, ?_⟩
  exact (((((hCb.set (k := sp) rfl 0 _).set (k := sp) rfl 1 _).set (k := sp) rfl 2 _).set (k := sp) rfl 3 _).set (k := sp) rfl 4 _).set (k := sp) rfl 5 _
/-! What is told of none. -/
theorem writeL_none (v : Option Addr) (w : World) (A : Option Addr) (n c : Nat) (h : NoS w v) : Calls Tryd.prog 39 #[.pointer v, .slice A n c] w fun e w' => e = .returned (.tuple #[.slice none 0 0, .int .i64 1]) ∧ Below w.heap.size w w' := by
  have hnone := Lib.hid (sNone_yes v w h)
  clear h
  go_enter Tryd.func39, Tryd.ntmps39
  go_wp2_with (go_at_call 60; (with_reducible refine Calls.mono hnone.out ?_); rintro e w' ⟨rfl, rfl⟩)
  go_ret2
  exact ⟨rfl, Below.refl _ _⟩
theorem resetL_none (v : Option Addr) (w : World) (h : NoS w v) : Calls Tryd.prog 37 #[.pointer v] w fun e w' => e = .returned (.int .i64 1) ∧ w = w' := by
  have hnone := Lib.hid (sNone_yes v w h)
  clear h
  go_enter Tryd.func37, Tryd.ntmps37
  go_wp2_with (go_at_call 60; (with_reducible refine Calls.mono hnone.out ?_); rintro e w' ⟨rfl, rfl⟩)
  go_ret
  exact ⟨rfl, rfl⟩
theorem copyL_none (v : Option Addr) (w : World) (h : NoS w v) : Calls Tryd.prog 38 #[.pointer v] w fun e w' => e = .returned (.pointer none) ∧ w = w' := by
  have hnone := Lib.hid (sNone_yes v w h)
  clear h
  go_enter Tryd.func38, Tryd.ntmps38
  go_wp2_with (go_at_call 60; (with_reducible refine Calls.mono hnone.out ?_); rintro e w' ⟨rfl, rfl⟩)
  go_ret
  exact ⟨rfl, rfl⟩
end Go.Proofs.YthdmmlaahjgijaaDoor
