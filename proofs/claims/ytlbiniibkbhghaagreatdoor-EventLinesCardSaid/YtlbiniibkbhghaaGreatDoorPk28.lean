import Derived.Test.YtlbiniibkbhghaaGreatDoorPk27
import Derived.Test.YtlbiniibkbhghaaGreatDoorPk22
import Derived.Test.YtlbiniibkbhghaaGreatDoorPk10
import Derived.Test.YtlbiniibkbhghaaGreatDoorPk12
import Derived.Test.YtlbiniibkbhghaaGreatDoorPk24
namespace Go.Proofs.YtlbiniibkbhghaaGreatDoor
open Go.RowKit Go.Shelf
attribute [local go_sem] Oper.semAt_some
attribute [local go_sem] wide_fn wide_depth wide_round

/-! ## EventLines -/
def AxE2 (F : Nat → Act) (x : Nat) (a' : Act) (_ : World) : Prop := a' = F x
/-- What the document tells of an event's lines. -/
def wantE (e : Ev) : List (List UInt8) := if rightE e = true then linesE e else []
theorem want_any (e : Ev) (w0 w : World) (hb : Below w0.heap.size w0 w) (hf : fewE e) : Calls Tryz.prog 16 #[evV e] w fun r w' => ∃ A c g cur, r = .returned (.slice A (wantE e).length c) ∧ StrsIn w' w.heap.size A g cur (wantE e) ∧ Below w.heap.size w w' ∧ Below w0.heap.size w0 w' := by
  cases hr : rightE e with
  | true =>
    refine (refLinesE_yes e w hf hr).mono ?_
    rintro r w' ⟨v, rfl, hs, hb2⟩
    obtain ⟨A, g, c, cur, rfl, hin⟩ := hs.shape
    have hw : wantE e = linesE e := by unfold wantE; rw [if_pos hr]
    rw [hw]
    exact ⟨A, c, g, cur, rfl, hin, hb2, hb.trans (hb2.mono hb.size)⟩
  | false =>
    refine (refLinesE_no e w (by obtain ⟨h1, h2, h3⟩ := hf; omega) hr).mono ?_
    rintro r w' ⟨rfl, hb2⟩
    have hw : wantE e = [] := by unfold wantE; rw [if_neg (by rw [hr]; decide)]
    rw [hw]
    exact ⟨none, 0, 0, #[], rfl, ⟨fun h => by simp at h, fun i x h => by simp at h⟩, hb2, hb.trans (hb2.mono hb.size)⟩
theorem seq_any (e : Ev) (w0 w : World) (hb : Below w0.heap.size w0 w) (hf : fewE e) (hT : EvT w0) : Calls Tryz.prog 17 #[evV e] w fun r w' => ∃ bN bF, r = .returned (.func (.func 34) #[] #[.pointer (some ⟨bN, 0, none⟩), .pointer (some ⟨bF, 0, none⟩)]) ∧ ItOk w' bN bF (wantE e) ∧ Below w.heap.size w w' ∧ Below w0.heap.size w0 w' := by
  cases hr : rightE e with
  | true =>
    refine (linesE_any e w hr (short_of hf) (hT.below hb)).mono ?_
    rintro r w' ⟨bN, bF, k, rfl, hE, _, _, _, hb2⟩
    have hw : wantE e = linesE e := by unfold wantE; rw [if_pos hr]
    rw [hw]
    exact ⟨bN, bF, rfl, it_right (by obtain ⟨h1, h2, h3⟩ := hf; omega) hE, hb2, hb.trans (hb2.mono hb.size)⟩
  | false =>
    refine (linesE_none e w hr (short_of hf) (hT.below hb)).mono ?_
    rintro r w' ⟨bN, bF, rfl, hN, hb2⟩
    have hw : wantE e = [] := by unfold wantE; rw [if_neg (by rw [hr]; decide)]
    rw [hw]
    exact ⟨bN, bF, rfl, it_wrong hN, hb2, hb.trans (hb2.mono hb.size)⟩
set_option maxRecDepth 100000 in
set_option maxHeartbeats 2000000 in
theorem lns_far (x : Ev) (m : Int) (w : World) (hx : WideE x) (hT : EvT w) (hD : Tab w) (h : ¬ fewE x) : Calls Tryz.prog 4 #[evV x, .int .i64 m] w fun r w' => r = .returned (.bool true) ∧ Below w.heap.size w w' := by
  have hb3 : Below w.heap.size w (((w.alloc (.cells (evCells x) 23)).alloc (.cells #[.int .i64 m] 3)).alloc (.cells #[.bool false] 4)) := (((Below.refl _ _).alloc (Nat.le_refl _) _).alloc (by simp) _).alloc (by simp; omega) _
  have hfx := Lib.hid (fun W (hb : Below w.heap.size w W) => carryE w W hb (few_any x W hx))
  have hwk := Lib.hid (fun W (hb : Below w.heap.size w W) => carryE w W hb (worksE_any W (hT.below hb) (hD.below hb)))
  have hb3' := Lib.hid hb3
  have hkr := Lib.hid (Has.new ((w.alloc (.cells (evCells x) 23)).alloc (.cells #[.int .i64 m] 3)) 4 #[.bool false])
  rw [decide_eq_false h] at hfx
  simp only [World.size_alloc] at hkr
  clear hb3 hT hD hx h
  unfold evV evCells at *
  go_enter Tryz.func4, Tryz.ntmps4
  go_wp2_with (first
    | (go_at_call 7; (with_reducible refine Calls.mono (hfx.out _ hb3'.out) ?_); rintro r w4 ⟨rfl, hc4, hb4⟩; have hb4' := Lib.hid hb4; have hr4 := Lib.hid (hkr.out.below hc4 hkr.out.lt); clear hc4 hb4)
    | (go_at_call 8; (with_reducible refine Calls.mono (hwk.out _ hb4'.out) ?_); rintro r w6 ⟨rfl, hc6, hb6⟩; have hb6' := Lib.hid hb6; have hr6 := Lib.hid (hr4.out.below hc6 hr4.out.lt); have r0 := hr6.out.cell 0; have g0 := hr6.out.free 0; have r1 := (hr6.out.put 0 (.bool true)).cell 0; clear hc6 hb6))
  refine ⟨rfl, .bool true, ?_, rfl, hb6'.out.setCell (p := ⟨w.heap.size + 1 + 1, 0, none⟩) (by simp; omega) _⟩
  simp [results, Tryz.results4, go_sem, r1]
set_option maxRecDepth 100000 in
set_option maxHeartbeats 8000000 in
theorem lns_near (x : Ev) (m : Int) (w : World) (hx : fewE x) (hT : EvT w) (hD : Tab w) : Calls Tryz.prog 4 #[evV x, .int .i64 m] w fun r w' => r = .returned (.bool true) ∧ Below w.heap.size w w' := by
  have hb3 : Below w.heap.size w (((w.alloc (.cells (evCells x) 23)).alloc (.cells #[.int .i64 m] 3)).alloc (.cells #[.bool false] 4)) := (((Below.refl _ _).alloc (Nat.le_refl _) _).alloc (by simp) _).alloc (by simp; omega) _
  have hfx := Lib.hid (fun W (hb : Below w.heap.size w W) => carryE w W hb (few_any x W (wide_of hx)))
  have hwk := Lib.hid (fun W (hb : Below w.heap.size w W) => carryE w W hb (worksE_any W (hT.below hb) (hD.below hb)))
  have hwt := Lib.hid (fun W (hb : Below w.heap.size w W) => want_any x w W hb hx)
  have hsq := Lib.hid (fun W (hb : Below w.heap.size w W) => seq_any x w W hb hx hT)
  have hmany : (wantE x).length ≤ 310 := by
    unfold wantE
    split
    · exact linesE_many hx
    · simp
  have hkx := Lib.hid (((Has.new w 23 (evCells x)).alloc (.cells #[.int .i64 m] 3)).alloc (.cells #[.bool false] 4))
  have hkm := Lib.hid ((Has.new (w.alloc (.cells (evCells x) 23)) 3 #[.int .i64 m]).alloc (.cells #[.bool false] 4))
  have hkr := Lib.hid (Has.new ((w.alloc (.cells (evCells x) 23)).alloc (.cells #[.int .i64 m] 3)) 4 #[.bool false])
  simp only [World.size_alloc] at hkm hkr
  have hb3' := Lib.hid hb3
  rw [decide_eq_true hx] at hfx
  obtain ⟨ls, hls⟩ : ∃ ls, wantE x = ls := ⟨_, rfl⟩
  rw [hls] at hwt hsq hmany
  obtain ⟨N, hNe⟩ : ∃ N, ls.length = N := ⟨_, rfl⟩
  have hN' := Lib.hid hNe
  rw [hNe] at hwt hmany
  clear hb3 hT hD hx hls hNe
  unfold evV evCells at *
  refine (callsIn_wide (n := 3)).1 ?_
  refine callsIn_of_wp_marks Tryz.func4 rfl trivial ?_ rfl
  refine wpIn_wide.2 ?_
  simp only [Tryz.ntmps4, List.size_toArray, List.length_cons, List.length_nil, Nat.reduceAdd, Nat.reduceSub, Array.replicate_succ, Array.replicate_zero, List.push_toArray, List.append_toArray, List.nil_append, List.cons_append]
  have hnil : ∀ (fn : Fn) (f c : Array Value) (w : World), Sem.run Tryz.prog (binOp BinOp.eql 38 (Value.func fn f c) Value.nilFunc) w = .ok (.bool false) w := fun _ _ _ _ => by kernel_rfl
  go_wp2_with (first
    | (go_at_call 7; (with_reducible refine Calls.mono (hfx.out _ hb3'.out) ?_); rintro r w4 ⟨rfl, hc4, hb4⟩; have hb4' := Lib.hid hb4; have hx4 := Lib.hid (hkx.out.below hc4 hkx.out.lt); have hm4 := Lib.hid (hkm.out.below hc4 hkm.out.lt); have hr4 := Lib.hid (hkr.out.below hc4 hkr.out.lt); have y0 := hx4.out.cell 0; have y1 := hx4.out.cell 1; have y2 := hx4.out.cell 2; clear hc4 hb4)
    | (go_at_call 16; (with_reducible refine Calls.mono (hwt.out _ hb4'.out) ?_); rintro r w5 ⟨A5, c5, g5, cur5, rfl, hin5, hc5, hb5⟩; have hin5' := Lib.hid hin5; have hal5 := Lib.hid (show Below w5.heap.size w5 (w5.alloc (.cells #[.slice A5 N c5] 35)) from (Below.refl _ _).alloc (Nat.le_refl _) _); have hb5' := Lib.hid (hb5.trans (hal5.out.mono hb5.size)); have hx5 := Lib.hid ((hx4.out.below hc5 hx4.out.lt).below hal5.out (Nat.lt_of_lt_of_le hx4.out.lt hc5.size)); have hm5 := Lib.hid ((hm4.out.below hc5 hm4.out.lt).below hal5.out (Nat.lt_of_lt_of_le hm4.out.lt hc5.size)); have hr5 := Lib.hid ((hr4.out.below hc5 hr4.out.lt).below hal5.out (Nat.lt_of_lt_of_le hr4.out.lt hc5.size)); have h55 := Lib.hid (Has.new w5 35 #[.slice A5 N c5]); have z0 := hx5.out.cell 0; have z1 := hx5.out.cell 1; have z2 := hx5.out.cell 2; clear hin5 hc5 hb5 y0 y1 y2)
    | (go_at_call 17; (with_reducible refine Calls.mono (hsq.out _ hb5'.out) ?_); rintro r w9 ⟨bN, bF, rfl, hIt9, hc9, hb9⟩; have hIt := Lib.hid hIt9; have hb05' := Lib.hid hb9; have d3 := Lib.hid (hm5.out.below hc9 hm5.out.lt); have d4 := Lib.hid (hr5.out.below hc9 hr5.out.lt); have d5 := Lib.hid (h55.out.below hc9 h55.out.lt); have hcur5 := Lib.hid (show 0 < N → ∃ g cur, A5 = some ⟨g, 0, none⟩ ∧ Has w9 g 9 cur ∧ ∀ (j : Nat) (y : List UInt8), ls[j]? = some y → cur[j]? = some (Value.string ⟨y.toArray⟩) from fun h => by
        obtain ⟨h1, _, h3⟩ := hin5'.out.1 (by rw [hN'.out]; exact h)
        exact ⟨_, _, h1, (h3.below hal5.out h3.lt).below hc9 (Nat.lt_of_lt_of_le h3.lt hal5.out.size), hin5'.out.2⟩); clear hIt9 hc9 hb9 z0 z1 z2))
  have hm9 := hb05'.out.size
  have hd3l := d3.out.lt
  have hd4l := d4.out.lt
  have hmanyN : N ≤ 310 := hmany
  clear hnil hfx hwt hsq hkx hkm hkr hb3' hb4' hx4 hm4 hr4 hb5' hx5 hm5 hr5 h55 hin5' hal5
  refine (wpIn_wide (n := 3)).1 ?_
  refine wpIn_loop_rounds 3 ?_
  rw [roundsIn_succ]
  have q4 := (Has.new w9 3 #[.int .i64 0]).alloc (.cells #[.int .i64 0] 3)
  have q5 := Has.new (w9.alloc (.cells #[.int .i64 0] 3)) 3 #[.int .i64 0]
  have hb6 : Below w9.heap.size w9 ((w9.alloc (.cells #[.int .i64 0] 3)).alloc (.cells #[.int .i64 0] 3)) := ((Below.refl _ _).alloc (Nat.le_refl _) _).alloc (by simp) _
  simp only [World.size_alloc] at q5
  have hFM := Lib.hid (show ElM w9 w9.heap.size (w9.heap.size + 1) 0 [] 0 ((w9.alloc (.cells #[.int .i64 0] 3)).alloc (.cells #[.int .i64 0] 3)) from ⟨q4, q5, fun _ h => (List.not_mem_nil h).elim, hb6⟩)
  clear q4 q5 hb6
  gi_wp2
  obtain ⟨w6, hw6⟩ : ∃ w6, (w9.alloc (.cells #[.int .i64 0] 3)).alloc (.cells #[.int .i64 0] 3) = w6 := ⟨_, rfl⟩
  have z6 : w6.heap.size = w9.heap.size + 1 + 1 := by rw [← hw6]; simp
  rw [hw6] at hFM ⊢
  clear hw6
  refine wpIn_range_ownB 2 (gf := 34) (lb := #[.pointer (some ⟨bN, 0, none⟩), .pointer (some ⟨bF, 0, none⟩)]) rfl (enters_of Tryz.func34 (by kernel_rfl) rfl)
    (hIt.out w6 (fun j => j = w9.heap.size + 1) hFM.out.be (fun j hj => by omega))
    (fun h k => h.trans k) (fun W l o o' _ h1 h2 _ => KeepC.putObj W l o o' h1 h2) (Below.refl _ _) (fun _ => rfl)
    (ElI N w9 m w9.heap.size (w9.heap.size + 1) 0 []) (ElX N 2 w9 m w9.heap.size (w9.heap.size + 1) 0 []) (ElM w9 w9.heap.size (w9.heap.size + 1) 0 [] (elCount m N 0))
    (elI_from N w9 m _ _ 0 [] _ (fun _ h => (List.not_mem_nil h).elim) (by omega)) (elX_from N 2 w9 m _ _ 0 [] _ (fun _ h => (List.not_mem_nil h).elim) (by omega))
    ⟨⟨⟨rfl, Nat.zero_le _⟩, fun _ => .inl rfl⟩, hFM.out⟩ (fun _ _ h1 h2 => el_all (by rw [hN'.out] at h1; exact h1) h2) (fun _ _ _ h1 h2 => el_left (by rw [hN'.out] at h1; exact h1) h2)
    (AxE2 ?Fx0) (fun z a' _ X Y row hs _ _ => hs) ?assign0 ?body0 (fun _ _ h => h) ?rest0
  case assign0 =>
    intro l1 pre z V K hI hK
    have hK' := Lib.hid hK
    have hI' := Lib.hid hI
    clear hK hI
    dsimp only [encW]
    gi_wp2
    refine hK'.out _ _ (KeepsFrom.refl _ _) (KeepC.refl _ _ _) hI'.out ?_
    rfl
  case body0 =>
    rintro l1 pre x a' V ⟨⟨hfit, hcond⟩, hM⟩ rfl hlen
    dsimp only
    rw [hN'.out] at hlen
    have hM' := Lib.hid hM
    have hbV := hM.be
    have q9 := hM.bk.cell 0
    have q9f := hM.bk.free 0
    have q8 := hM.bT.cell 0
    have q5 := (d5.out.below hbV d5.out.lt).cell 0
    have q3 := (d3.out.below hbV d3.out.lt).cell 0
    have q4 := (d4.out.below hbV d4.out.lt).cell 0
    have q4f := (d4.out.below hbV d4.out.lt).free 0
    have hfit' := Lib.hid hfit
    have hcond' := Lib.hid hcond
    have hl1 : Hid ((pre ++ [x]).length = pre.length + 1) := Lib.hid (by simp)
    obtain ⟨pl, hple⟩ : ∃ pl, pre.length = pl := ⟨_, rfl⟩
    have hple' := Lib.hid hple
    have e1 : Hid (((pre ++ [x]).length : Int) = (pl : Int) + 1) := Lib.hid (by rw [hl1.out, hple]; rfl)
    rw [hple] at q9 hlen
    have hli2 : (pl : Int) < (N : Int) := by omega
    have hli3 : decide (N ≤ pl) = false := decide_eq_false (by omega)
    obtain ⟨g5, cur5, rfl, hg5, hc5⟩ := hcur5.out (by omega)
    obtain ⟨y, hy⟩ : ∃ y, ls[pl]? = some y := ⟨ls[pl]'(by rw [hN'.out]; exact hlen), List.getElem?_eq_getElem _⟩
    have q5c := ((hg5.below hbV hg5.lt).cell pl).trans (hc5 pl y hy)
    by_cases hxp : x = pl
    · subst hxp
      have hgy : ls[x]?.getD [] = y := by rw [hy]; rfl
      rw [hgy]
      have hnx := Lib.hid (show FitR N (pre ++ [x]) from by have h := fitR_next hfit'.out (by rw [hple'.out]; omega); rw [hple'.out] at h; exact h)
      have hM9 := Lib.hid (hM'.out.count (by omega) (by omega) ((x : Int) + 1))
      clear hM hbV hfit hcond hple hy hgy hg5 hc5
      by_cases hm : m ≤ (x : Int) + 1
      · gi_wp2
        refine ⟨(KeepsOthers.setCell _ _ _).from _, .inr ⟨rfl, rfl, hnx.out, by rw [e1.out]; exact hm, ?_, by rw [hl1.out]; omega, by rw [e1.out]; exact hM9.out⟩⟩
        rw [e1.out, hl1.out]
        have := hcond'.out trivial
        rw [hple'.out] at this
        have := hple'.out
        omega
      · have hm2 : decide (m ≤ (x : Int) + 1) = false := decide_eq_false hm
        gi_wp2
        refine ⟨(KeepsOthers.setCell _ _ _).from _, (KeepC.refl _ (fun j => j = w9.heap.size + 1) _).setCell (p := ⟨w9.heap.size + 1, 0, none⟩) rfl _, ⟨hnx.out, fun _ => .inr (by rw [e1.out]; omega)⟩, by rw [e1.out]; exact hM9.out⟩
    · have hxI : ((x : Int) != (pl : Int)) = true := by rw [bne_iff_ne]; omega
      have hx' := Lib.hid hxp
      clear hxp hc5 hfit hcond hM hbV hg5 hple hy
      gi_wp2
      exact ⟨(KeepsOthers.setCell _ _ _).from _, .inl ⟨rfl, fun hff => hx'.out (by have := (fitR_last hff).1; rw [hple'.out] at this; exact this)⟩⟩
  case rest0 =>
    rintro D W hD hM hDn
    have hDn' := Lib.hid hDn
    have hDW := hDn.lt
    have hbW := hM.be
    have hbs5 := hbW.size
    have e8 := hM.bT.cell 0
    have e9 := hM.bk.cell 0
    have e5 := (d5.out.below hbW d5.out.lt).cell 0
    have e3 := (d3.out.below hbW d3.out.lt).cell 0
    rw [show elCount m N 0 = min (N : Int) (max 1 m) from rfl] at e9
    have hbW' := Lib.hid hbW
    clear hbW hM hDn
    gi_wp2
    rw [roundsIn_succ]
    have q4 := (Has.new W 3 #[.int .i64 1]).alloc (.cells #[.int .i64 0] 3)
    have q5 := Has.new (W.alloc (.cells #[.int .i64 1] 3)) 3 #[.int .i64 0]
    simp only [World.size_alloc] at q5
    have n2 : ElM w9 W.heap.size (W.heap.size + 1) 1 [D] 0 ((W.alloc (.cells #[.int .i64 1] 3)).alloc (.cells #[.int .i64 0] 3)) :=
      ⟨q4, q5, fun D' h => by rw [List.mem_singleton.1 h]; exact (hDn'.out.alloc _).alloc _, (hbW'.out.alloc hbW'.out.size _).alloc (by simp only [World.size_alloc]; omega) _⟩
    have n2' := Lib.hid n2
    clear q4 q5 n2 e8 e9 e5 e3
    gi_wp2
    obtain ⟨w7, hw7⟩ : ∃ w7, (W.alloc (.cells #[.int .i64 1] 3)).alloc (.cells #[.int .i64 0] 3) = w7 := ⟨_, rfl⟩
    have z7 : w7.heap.size = W.heap.size + 1 + 1 := by rw [← hw7]; simp
    rw [hw7] at n2' ⊢
    clear hw7
    refine wpIn_range_ownB 2 (gf := 34) (lb := #[.pointer (some ⟨bN, 0, none⟩), .pointer (some ⟨bF, 0, none⟩)]) rfl (enters_of Tryz.func34 (by kernel_rfl) rfl)
      (hIt.out w7 (fun j => j = W.heap.size + 1) n2'.out.be (fun j hj => by omega))
      (fun h k => h.trans k) (fun W l o o' _ h1 h2 _ => KeepC.putObj W l o o' h1 h2) (Below.refl _ _) (fun _ => rfl)
      (ElI N w9 m W.heap.size (W.heap.size + 1) 1 [D]) (ElX N 2 w9 m W.heap.size (W.heap.size + 1) 1 [D]) (ElM w9 W.heap.size (W.heap.size + 1) 1 [D] (elCount m N 1))
      (elI_from N w9 m _ _ 1 [D] _ (fun D' h => by rw [List.mem_singleton.1 h]; omega) (by omega)) (elX_from N 2 w9 m _ _ 1 [D] _ (fun D' h => by rw [List.mem_singleton.1 h]; omega) (by omega))
      ⟨⟨⟨rfl, Nat.zero_le _⟩, fun h => by cases h⟩, n2'.out⟩ (fun _ _ h1 h2 => el_all (by rw [hN'.out] at h1; exact h1) h2) (fun _ _ _ h1 h2 => el_left (by rw [hN'.out] at h1; exact h1) h2)
      (AxE2 ?Fx1) (fun z a' _ X Y row hs _ _ => hs) ?assign1 ?body1 (fun _ _ h => h) ?rest1
    case assign1 =>
      intro l1 pre z V K hI hK
      have hK' := Lib.hid hK
      have hI' := Lib.hid hI
      clear hK hI
      dsimp only [encW]
      gi_wp2
      refine hK'.out _ _ (KeepsFrom.refl _ _) (KeepC.refl _ _ _) hI'.out ?_
      rfl
    case body1 =>
      rintro l1 pre x a' V ⟨⟨hfit, hcond⟩, hM⟩ rfl hlen
      dsimp only
      rw [hN'.out] at hlen
      have hM' := Lib.hid hM
      have hbV := hM.be
      have q9 := hM.bk.cell 0
      have q9f := hM.bk.free 0
      have q8 := hM.bT.cell 0
      have q5 := (d5.out.below hbV d5.out.lt).cell 0
      have q3 := (d3.out.below hbV d3.out.lt).cell 0
      have q4 := (d4.out.below hbV d4.out.lt).cell 0
      have q4f := (d4.out.below hbV d4.out.lt).free 0
      have hfit' := Lib.hid hfit
      have hcond' := Lib.hid hcond
      have hl1 : Hid ((pre ++ [x]).length = pre.length + 1) := Lib.hid (by simp)
      obtain ⟨pl, hple⟩ : ∃ pl, pre.length = pl := ⟨_, rfl⟩
      have hple' := Lib.hid hple
      have e1 : Hid (((pre ++ [x]).length : Int) = (pl : Int) + 1) := Lib.hid (by rw [hl1.out, hple]; rfl)
      rw [hple] at q9 hlen
      have hli2 : (pl : Int) < (N : Int) := by omega
      have hli3 : decide (N ≤ pl) = false := decide_eq_false (by omega)
      obtain ⟨g5, cur5, rfl, hg5, hc5⟩ := hcur5.out (by omega)
      obtain ⟨y, hy⟩ : ∃ y, ls[pl]? = some y := ⟨ls[pl]'(by rw [hN'.out]; exact hlen), List.getElem?_eq_getElem _⟩
      have q5c := ((hg5.below hbV hg5.lt).cell pl).trans (hc5 pl y hy)
      by_cases hxp : x = pl
      · subst hxp
        have hgy : ls[x]?.getD [] = y := by rw [hy]; rfl
        rw [hgy]
        have hnx := Lib.hid (show FitR N (pre ++ [x]) from by have h := fitR_next hfit'.out (by rw [hple'.out]; omega); rw [hple'.out] at h; exact h)
        have hM9 := Lib.hid (hM'.out.count (by omega) (by omega) ((x : Int) + 1))
        clear hM hbV hfit hcond hple hy hgy hg5 hc5
        gi_wp2
        refine ⟨(KeepsOthers.setCell _ _ _).from _, (KeepC.refl _ (fun j => j = W.heap.size + 1) _).setCell (p := ⟨W.heap.size + 1, 0, none⟩) rfl _, ⟨hnx.out, fun h => by cases h⟩, by rw [e1.out]; exact hM9.out⟩
      · have hxI : ((x : Int) != (pl : Int)) = true := by rw [bne_iff_ne]; omega
        have hx' := Lib.hid hxp
        clear hxp hc5 hfit hcond hM hbV hg5 hple hy
        gi_wp2
        exact ⟨(KeepsOthers.setCell _ _ _).from _, .inl ⟨rfl, fun hff => hx'.out (by have := (fitR_last hff).1; rw [hple'.out] at this; exact this)⟩⟩
    case rest1 =>
      rintro D2 W2 hD2 hM2 hDn2
      have hDn2' := Lib.hid hDn2
      have hDW2 := hDn2.lt
      have hne : D < D2 := by omega
      have hds := Lib.hid (hM2.ds D List.mem_cons_self)
      have hbW2 := hM2.be
      have hbs2 := hbW2.size
      have e8 := hM2.bT.cell 0
      have e9 := hM2.bk.cell 0
      have e5 := (d5.out.below hbW2 d5.out.lt).cell 0
      have e3 := (d3.out.below hbW2 d3.out.lt).cell 0
      have hd4 := Lib.hid (d4.out.below hbW2 d4.out.lt)
      have hb2w := Lib.hid (hb05'.out.trans (hbW2.mono hb05'.out.size))
      rw [show elCount m N 1 = (N : Int) from rfl] at e9
      have hgl1 := hd4.out.lt
      have hz4 := d4.out.lt
      have hz05 := hb05'.out.size
      clear hbW2 hM2 hDn2
      gi_wp2
      rw [roundsIn_succ]
      have e7 := (Has.new W2 3 #[.int .i64 2]).cell 0
      have g1x := hd4.out.alloc (.cells #[.int .i64 2] 3)
      have e8 := g1x.cell 0
      have f8 := g1x.free 0
      have hb2x := Lib.hid (hb2w.out.alloc (by omega) (.cells #[.int .i64 2] 3))
      gi_wp2_with fail
      go_wp2_with fail
      with_reducible refine Calls.mono (hwk.out _ hb2x.out) ?_
      rintro e w19 ⟨rfl, hb19, hb19w⟩
      have g9 := g1x.below hb19 g1x.lt
      have e9 := g9.cell 0
      have f9 := g9.free 0
      have k2 := Lib.hid (((hDn2'.out.alloc (.cells #[.int .i64 2] 3)).below hb19 (by simp; omega)).set (i := 0) g9 (.bool true))
      have k1 := Lib.hid (((hds.out.alloc (.cells #[.int .i64 2] 3)).below hb19 (by simp; omega)).set (i := 0) g9 (.bool true))
      have g10 := g9.put 0 (.bool true)
      have hb10 := Lib.hid (hb19w.setCell (p := ⟨w.heap.size + 1 + 1, 0, none⟩) (by simp; omega) (.bool true))
      go_wp2
      have hne2 : D ≠ D2 := by omega
      have k1' := (k1.out.put (.deferred none) hne2)
      refine ⟨by simp, .inl ⟨_, _, rfl, run_takeDeferred k2.out, ⟨by simp, .inl ⟨_, _, rfl, run_takeDeferred k1', ?_⟩⟩⟩⟩
      have g11 := ((g10.put_obj (.deferred none) (l := D2) (by omega)).put_obj (.deferred none) (l := D) (by omega)).cell 0
      refine ⟨.bool true, ?_, rfl, ?_⟩
      · simp [results, Tryz.results4, go_sem, g11]
      · exact (hb10.out.trans (belowK_b (w := w) (Nat.le_refl _) _ D2 _ _ (by omega) k2.out rfl rfl)).trans (belowK_b (w := w) (Nat.le_refl _) _ D _ _ (by omega) k1' rfl rfl)
end Go.Proofs.YtlbiniibkbhghaaGreatDoor
