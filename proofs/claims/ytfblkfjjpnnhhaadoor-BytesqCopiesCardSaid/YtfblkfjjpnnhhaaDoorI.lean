import Derived.Test.YtfblkfjjpnnhhaaDoorH
import Derived.Laws.EntriesVeiled
import Derived.BigRegionIn
import Derived.Shelf.Abstract
import Derived.Test.YtfblkfjjpnnhhaaDoorQ
namespace Go.Proofs.YtfblkfjjpnnhhaaDoor
open Go.RowKit Go.Shelf
attribute [local go_sem] Oper.semAt_some
attribute [local go_sem] wide_fn wide_depth wide_round

/-! ## The same bytes -/
/-- The cells at g's head are a stock of these bytes. -/
def Stq (W : World) (g r : Nat) (bs : List UInt8) : Prop := ∃ A cs s, Stk W g r A cs s bs.length ∧ rb cs s bs.length = bs
theorem Qu.stq {W : World} {g r room : Nat} {bs : List UInt8} (h : Qu W g r room bs) : Stq W g r bs := by
  obtain ⟨A, cs, s, h, e⟩ := h
  exact ⟨A, cs, s, h.stk, e⟩
theorem Stq.kept {W W' : World} {g r : Nat} {bs : List UInt8} (h : Stq W g r bs) (hg : W'.heap[g]? = W.heap[g]?) (hr : W'.heap[r]? = W.heap[r]?) : Stq W' g r bs := by
  obtain ⟨A, cs, s, h, e⟩ := h
  exact ⟨A, cs, s, h.kept hg (fun _ => hr), e⟩
theorem Stq.below {W W' : World} {g r : Nat} {bs : List UInt8} (h : Stq W g r bs) (hb : Below W.heap.size W W') : Stq W' g r bs := by
  obtain ⟨A, cs, s, h, e⟩ := h
  exact ⟨A, cs, s, h.below hb, e⟩
theorem Stq.small {W : World} {g r : Nat} {bs : List UInt8} (h : Stq W g r bs) : bs.length ≤ 1048576 := by
  obtain ⟨A, cs, s, h, e⟩ := h
  exact Nat.le_trans h.count h.small
theorem Stq.c2 {W : World} {g r : Nat} {bs : List UInt8} (h : Stq W g r bs) : W.cell? ⟨g, 2, none⟩ = some (.int .i64 (bs.length : Int)) := by
  obtain ⟨A, cs, s, h, e⟩ := h
  exact h.c2
theorem Stq.lt {W : World} {g r : Nat} {bs : List UInt8} (h : Stq W g r bs) : g < W.heap.size := by
  obtain ⟨A, cs, s, h, e⟩ := h
  exact h.lt

theorem like_less (g r g' r' : Nat) (bs bs' : List UInt8) (w : World) (h : Stq w g r bs) (h' : Stq w g' r' bs') (hne : bs.length ≠ bs'.length) :
    Calls Tryd.prog 26 #[.pointer (some ⟨g, 0, none⟩), .pointer (some ⟨g', 0, none⟩)] w fun e w' => e = .returned (.bool false) ∧ Below w.heap.size w w' := by
  have hb := (Below.refl w.heap.size w).alloc (Nat.le_refl _) (.cells #[.pointer (some ⟨g', 0, none⟩)] 64)
  have c2 := h.c2
  have d2 := h'.c2
  have hl := h.lt
  have hl' := h'.lt
  have hd : (((bs.length : Int) != (bs'.length : Int))) = true := by rw [bne_iff_ne]; omega
  go_enter Tryd.func26, Tryd.ntmps26
  go_wp2
  refine wp_scope_on 0 rfl ?_
  go_wp2
  go_quiet (fail)
  go_wp2
  rw [jump_ret]
  go_ret
  exact ⟨rfl, below_draws hb _⟩

/-- What lies while bytes are held against those of another one. -/
def LikeI (w : World) (g' : Nat) (b : Bool) (W : World) : Prop :=
  Has W w.heap.size 64 #[.pointer (some ⟨g', 0, none⟩)] ∧ Has W (w.heap.size + 1) 4 #[.bool b] ∧ Below w.heap.size w W
theorem likeI_from {β : Type} (w : World) (g' : Nat) (b : β → Bool) (B : Nat) (hB : w.heap.size + 1 < B) : OwnFrom B (fun s W => LikeI w g' (b s) W) :=
  OwnFrom.and (has_from (by omega) _ (fun _ => #[.pointer (some ⟨g', 0, none⟩)])) (OwnFrom.and (has_from hB _ (fun s => #[.bool (b s)])) (ownFrom_below (Nat.le_refl _) (by omega)))
/-- So far they are the same. -/
def Agree (bs bs' : List UInt8) (pre : List (Fin bs.length)) : Prop := ∀ i ∈ pre, bs'.getD i.val 0 = bs[i.val]
theorem agree_all {bs bs' : List UInt8} (hl : bs.length = bs'.length) (h : Agree bs bs' (firsts bs.length bs.length)) : bs' = bs := by
  apply List.ext_getElem hl.symm
  intro i h1 h2
  have := h ⟨i, h2⟩ (by unfold firsts; rw [List.take_of_length_le (by simp)]; exact List.mem_finRange _)
  rw [List.getD_eq_getElem?_getD, List.getElem?_eq_getElem h1] at this
  exact this
set_option maxRecDepth 100000 in
set_option maxHeartbeats 2000000 in
theorem like_same (g r g' r' : Nat) (bs bs' : List UInt8) (w : World) (h : Stq w g r bs) (h' : Stq w g' r' bs') (hlr : r < w.heap.size) (hl : bs.length = bs'.length) :
    Calls Tryd.prog 26 #[.pointer (some ⟨g, 0, none⟩), .pointer (some ⟨g', 0, none⟩)] w fun e w' => e = .returned (.bool (decide (bs' = bs))) ∧ Below w.heap.size w w' := by
  refine (callsIn_wide (n := 3)).1 ?_
  refine callsIn_of_wp_marks Tryd.func26 rfl trivial ?_ rfl
  refine wpIn_wide.2 ?_
  simp only [Tryd.ntmps26, List.size_toArray, List.length_cons, List.length_nil, Nat.reduceAdd, Nat.reduceSub, Array.replicate_succ, Array.replicate_zero, List.push_toArray, List.append_toArray, List.nil_append, List.cons_append]
  have hg := h.lt
  have hg' := h'.lt
  have c2 := h.c2
  have d2 := h'.c2
  have hd : (((bs.length : Int) != (bs'.length : Int))) = false := by rw [bne_eq_false_iff_eq]; omega
  have hl' := Lib.hid hl
  clear hl
  go_wp2
  refine wp_scope_on 0 rfl ?_
  go_wp2
  go_quiet (fail)
  have hb0 := (Below.refl w.heap.size w).alloc (Nat.le_refl _) (.cells #[.pointer (some ⟨g', 0, none⟩)] 64)
  have k0 := Has.new w 64 #[.pointer (some ⟨g', 0, none⟩)]
  have hw0b : Below w.heap.size w ((w.alloc (.cells #[.pointer (some ⟨g', 0, none⟩)] 64)).drewN nq) := below_draws hb0 _
  have k0' : Has ((w.alloc (.cells #[.pointer (some ⟨g', 0, none⟩)] 64)).drewN nq) w.heap.size _ _ := k0
  have z0 : ((w.alloc (.cells #[.pointer (some ⟨g', 0, none⟩)] 64)).drewN nq).heap.size = w.heap.size + 1 := by show (w.alloc _).heap.size = _; simp
  generalize (w.alloc (.cells #[.pointer (some ⟨g', 0, none⟩)] 64)).drewN nq = w0 at hw0b k0' z0 ⊢
  obtain ⟨A, cs, s, hs, hr⟩ := h.below hw0b
  have e0 := hs.c0
  have e1 := hs.c1
  have e2 := hs.c2
  have hg0 : g < w0.heap.size := by omega
  have hs' := Lib.hid hs
  have hr' := Lib.hid hr
  have z0' := Lib.hid z0
  clear hb0 k0 c2 d2 hs hr z0
  go_wp2
  go_step3
  go_wp2_with (go_at_call 30; refine (each_any _ _ _ _).mono ?_; rintro e w3 ⟨rfl, rfl⟩)
  have k1 := (k0'.alloc (.cells #[.bool true] 4)).alloc (.cells #[.slice A cs.length cs.length, .int .i64 (s : Int), .int .i64 (bs.length : Int)] 44)
  have m1 := (Has.new w0 4 #[.bool true]).alloc (.cells #[.slice A cs.length cs.length, .int .i64 (s : Int), .int .i64 (bs.length : Int)] 44)
  have q1 := Has.new (w0.alloc (.cells #[.bool true] 4)) 44 #[.slice A cs.length cs.length, .int .i64 (s : Int), .int .i64 (bs.length : Int)]
  have hB1 := (hw0b.alloc (by have := z0'.out; omega) (.cells #[.bool true] 4)).alloc (by have := z0'.out; simp; omega) (.cells #[.slice A cs.length cs.length, .int .i64 (s : Int), .int .i64 (bs.length : Int)] 44)
  have z1 : ((w0.alloc (.cells #[.bool true] 4)).alloc (.cells #[.slice A cs.length cs.length, .int .i64 (s : Int), .int .i64 (bs.length : Int)] 44)).heap.size = w.heap.size + 1 + 1 + 1 := by have := z0'.out; simp; omega
  simp only [World.size_alloc, z0'.out] at m1 q1
  rw [z0'.out]
  have hseq : SeqB ((w0.alloc (.cells #[.bool true] 4)).alloc (.cells #[.slice A cs.length cs.length, .int .i64 (s : Int), .int .i64 (bs.length : Int)] 44)) (w.heap.size + 1 + 1) r bs := ⟨A, cs, s, q1, fun hl => ⟨(hs'.out.row hl).1, ((hs'.out.row hl).2.alloc _).alloc _⟩, hs'.out.start, hs'.out.count, hs'.out.small, hr'.out⟩
  generalize (w0.alloc (.cells #[.bool true] 4)).alloc (.cells #[.slice A cs.length cs.length, .int .i64 (s : Int), .int .i64 (bs.length : Int)] 44) = w1 at k1 m1 q1 hB1 z1 hseq ⊢
  have z1' := Lib.hid z1
  clear e0 e1 e2 z1
  refine (wpIn_wide (n := 3)).1 ?_
  refine wpIn_range_meets 0 rfl (by omega) (gf := 35) (lb := #[.pointer (some ⟨w.heap.size + 1 + 1, 0, none⟩)]) rfl trivial (enters_of Tryd.func35 (by kernel_rfl) rfl)
    (each_stops 2 (by omega) bs (w.heap.size + 1 + 1) r w1 hseq) Kept.trans (kept_b (fun k e => by have := z1'.out; omega)) (Below.refl _ _) (fun _ => rfl)
    (fun pre W => Agree bs bs' pre ∧ LikeI w g' true W) (fun c pre W => (c = .exit 0 ∧ ∃ i : Fin bs.length, bs'.getD i.val 0 ≠ bs[i.val]) ∧ LikeI w g' false W)
    (LikeI w g' (decide (bs' = bs)))
    (fun s X Y row hs hg hr => ⟨hs.1, likeI_from (β := Unit) w g' (fun _ => true) _ (by have := z1'.out; omega) () X Y row hs.2 hg hr⟩)
    (fun c s X Y row hs hg hr => ⟨hs.1, likeI_from (β := Unit) w g' (fun _ => false) _ (by have := z1'.out; omega) () X Y row hs.2 hg hr⟩)
    ⟨fun i hi => (List.not_mem_nil hi).elim, k1, m1, hB1⟩
    (fun xs W hS ⟨h1, h2⟩ => by rw [hS] at h1; rw [decide_eq_true (agree_all hl'.out h1)]; exact h2)
    (fun c pre W _ ⟨⟨hc, i, hi⟩, h2⟩ => ⟨hc, by rw [decide_eq_false (fun e => hi (by rw [e, List.getD_eq_getElem?_getD, List.getElem?_eq_getElem i.isLt]; rfl))]; exact h2⟩)
    ?a1 ?assign ?body (fun _ _ h => h) ?rest
  case assign =>
    intro l y W K hK
    have hK' := Lib.hid hK
    clear hK
    dsimp only [encAt]
    gi_wp2
    exact hK'.out
  case body =>
    rintro l pre y W ⟨hag, b0, b1, hB⟩ hlen
    obtain ⟨A2, cs2, s2, hs2, hr2⟩ := h'.below hB
    have hyl : y.val < bs'.length := by have := hl'.out; have := y.isLt; omega
    have c0 : W.cell? ⟨w.heap.size, 0, none⟩ = some (.pointer (some ⟨g', 0, none⟩)) := b0.cell 0
    have d0 : W.cell? ⟨g', 0, none⟩ = some (.slice A2 cs2.length cs2.length) := hs2.c0
    have d1 : W.cell? ⟨g', 1, none⟩ = some (.int .i64 (s2 : Int)) := hs2.c1
    have e1 : W.cell? ⟨w.heap.size + 1, 0, none⟩ = some (.bool true) := b1.cell 0
    have f1 : W.frozen? ⟨w.heap.size + 1, 0, none⟩ = false := b1.free 0
    have hcnt2 := hs2.count
    have hsm2 := hs2.small
    have hst2 := hs2.start
    have hix : idx cs2.length s2 y.val < cs2.length := by have := idx_or cs2.length s2 y.val; omega
    have hrow := hs2.row (by omega)
    have hA := Lib.hid hrow.1
    have hbyte : W.cell? ⟨r', idx cs2.length s2 y.val, none⟩ = some (.int .u8 ((bs'[y.val]'hyl).toNat : Int)) := by
      have hrw : Has W r' _ _ := hrow.2
      rw [hrw.cell, List.getElem?_toArray, byts_at hix]
      have this := getD_some hix
      rw [List.getElem?_eq_getElem hix] at this
      have h2 := rb_get (cs := cs2) (s := s2) hyl
      rw [hr2, List.getElem?_eq_getElem hyl] at h2
      rw [Option.some.inj h2, Option.some.inj this]; rfl
    have hcall : Hid (∀ n q, CallsIn (Fence.wide.inRound l) n Tryd.prog 34 #[.pointer (some ⟨g', 0, none⟩), .int .i64 ((y.val : Nat) : Int)] (W.drewN q) fun e w' => e = .returned (.int .i64 ((idx cs2.length s2 y.val : Nat) : Int)) ∧ w' = W.drewN q) := fun n q =>
      (CallsIn.inRound l (callsIn_wide (n := n).2 (index_any g' cs2.length A2 cs2.length s2 y.val (W.drewN q) d0 d1 (by omega) (by omega)))).mono fun e w' ⟨h1, h2⟩ => ⟨h1, h2.symm⟩
    have hget : Hid (bs'.getD y.val 0 = bs'[y.val]'hyl) := by show _ = _; rw [List.getD_eq_getElem?_getD, List.getElem?_eq_getElem hyl]; rfl
    generalize idx cs2.length s2 y.val = x at hix hbyte hcall
    have hix' : ((x : Nat) : Int) < (cs2.length : Int) := by omega
    have hag' := Lib.hid hag
    have b0' := Lib.hid b0
    have b1' := Lib.hid b1
    have hB' := Lib.hid hB
    have hrow2 := hrow.1
    clear hag b0 b1 hB hrow hs2 hr2 hst2
    subst hrow2
    by_cases heq : bs'[y.val]'hyl = bs[y.val]
    · have hq : ((((bs'[y.val]'hyl).toNat : Int)) != ((bs[y.val].toNat : Int))) = false := by rw [heq]; simp
      have heq' := Lib.hid heq
      clear heq
      gi_wp2
      refine wpIn_region_calm (by kernel_rfl) (by kernel_rfl) (by kernel_rfl) ?_
      repeat (gi_big_quiet_step ((gi_at_call 34; exact CallsIn.quiet_of_same (hcall.out _ _))))
      refine wpQuietIn_nil ?_
      intro _ hw'
      obtain ⟨nq, hw''⟩ := hw'
      subst hw''
      gi_wp2
      refine ⟨(others_drewN _ _).from _, (Kept.refl _ _).draws _, ?_, b0'.out, b1'.out, below_draws hB'.out _⟩
      intro i hi
      rcases List.mem_append.1 hi with hi | hi
      · exact hag'.out i hi
      · rw [List.mem_singleton.1 hi, hget.out]; exact heq'.out
    · have hq : ((((bs'[y.val]'hyl).toNat : Int)) != ((bs[y.val].toNat : Int))) = true := by
        rw [bne_iff_ne]
        intro h
        exact heq (UInt8.toNat_inj.1 (by omega))
      have heq' := Lib.hid heq
      clear heq
      gi_wp2
      refine wpIn_region_calm (by kernel_rfl) (by kernel_rfl) (by kernel_rfl) ?_
      repeat (gi_big_quiet_step ((gi_at_call 34; exact CallsIn.quiet_of_same (hcall.out _ _))))
      refine wpQuietIn_nil ?_
      intro _ hw'
      obtain ⟨nq, hw''⟩ := hw'
      subst hw''
      gi_wp2
      refine ⟨((others_drewN _ _).trans (KeepsOthers.setCell _ _ _)).from _, ⟨rfl, y, by rw [hget.out]; exact heq'.out⟩, (b0'.out.drewN _).other (by omega) _, (b1'.out.drewN _).put 0 _, (below_draws hB'.out _).setCell (by simp) _⟩
  case rest =>
    rintro D W hD ⟨b0, b1, hB⟩ hKd
    have e1 := b1.cell 0
    go_wp2
    rw [jump_ret]
    refine ⟨by simp, .inl ⟨_, _, rfl, run_takeDeferred hKd, ?_⟩⟩
    exact ⟨_, results_tmp (t := 4) rfl _ _ _, rfl, hB.trans (belowK_b (w := w) (Nat.le_refl _) W D _ _ (by have := z1'.out; omega) hKd rfl rfl)⟩
theorem like_any (g r g' r' : Nat) (bs bs' : List UInt8) (w : World) (h : Stq w g r bs) (h' : Stq w g' r' bs') (hlr : r < w.heap.size) :
    Calls Tryd.prog 26 #[.pointer (some ⟨g, 0, none⟩), .pointer (some ⟨g', 0, none⟩)] w fun e w' => e = .returned (.bool (decide (bs' = bs))) ∧ Below w.heap.size w w' := by
  by_cases hl : bs.length = bs'.length
  · exact like_same g r g' r' bs bs' w h h' hlr hl
  · refine (like_less g r g' r' bs bs' w h h' hl).mono fun e w' ⟨he, hb⟩ => ⟨?_, hb⟩
    rw [he, decide_eq_false (fun e => hl (by rw [e]))]

theorem same_none (v u : Option Addr) (w : World) (h : NoQ w v) (h' : NoQ w u) :
    Calls Tryd.prog 14 #[.pointer v, .pointer u] w fun e w' => e = .returned (.bool true) ∧ w = w' := by
  have hn := Lib.hid (none_yes v w h)
  have hn' := Lib.hid (none_yes u w h')
  clear h h'
  go_enter Tryd.func14, Tryd.ntmps14
  go_wp2_with (first | (go_at_call 24; (with_reducible refine hn.out.mono ?_); rintro e w' ⟨rfl, rfl⟩) | (go_at_call 24; (with_reducible refine hn'.out.mono ?_); rintro e w' ⟨rfl, rfl⟩))
  go_ret
  exact ⟨rfl, rfl⟩
theorem same_half (g r room : Nat) (bs : List UInt8) (u : Option Addr) (w : World) (h : Qu w g r room bs) (h' : NoQ w u) :
    Calls Tryd.prog 14 #[.pointer (some ⟨g, 0, none⟩), .pointer u] w fun e w' => e = .returned (.bool false) ∧ w = w' := by
  have hn := Lib.hid (none_no g w h.c4)
  have hn' := Lib.hid (none_yes u w h')
  clear h h'
  go_enter Tryd.func14, Tryd.ntmps14
  go_wp2_with (first | (go_at_call 24; (with_reducible refine hn.out.mono ?_); rintro e w' ⟨rfl, rfl⟩) | (go_at_call 24; (with_reducible refine hn'.out.mono ?_); rintro e w' ⟨rfl, rfl⟩))
  go_ret
  exact ⟨rfl, rfl⟩
set_option maxHeartbeats 400000 in
theorem same_any (g r room g' r' room' : Nat) (bs bs' : List UInt8) (w : World) (h : Qu w g r room bs) (h' : Qu w g' r' room' bs') (hlr : r < w.heap.size) :
    Calls Tryd.prog 14 #[.pointer (some ⟨g, 0, none⟩), .pointer (some ⟨g', 0, none⟩)] w fun e w' => e = .returned (.bool (decide (room = room' ∧ bs' = bs))) ∧ Below w.heap.size w w' := by
  have hn := Lib.hid (none_no g w h.c4)
  have hn' := Lib.hid (none_no g' w h'.c4)
  have c3 := h.c3
  have d3 := h'.c3
  by_cases hr : room = room'
  · have hq : ((room : Int) == (room' : Int)) = true := by rw [beq_iff_eq]; omega
    have hlk : Hid (Calls Tryd.prog 26 #[.pointer (some ⟨g, 0, none⟩), .pointer (some ⟨g', 0, none⟩)] w.drew fun e w' => e = .returned (.bool (decide (bs' = bs))) ∧ Below w.drew.heap.size w.drew w') :=
      like_any g r g' r' bs bs' w.drew (h.stq.kept rfl rfl) (h'.stq.kept rfl rfl) hlr
    have hr' := Lib.hid hr
    clear h h' hr
    go_enter Tryd.func14, Tryd.ntmps14
    go_wp2_with (first | (go_at_call 24; (with_reducible refine hn.out.mono ?_); rintro e w' ⟨rfl, rfl⟩) | (go_at_call 24; (with_reducible refine hn'.out.mono ?_); rintro e w' ⟨rfl, rfl⟩))
    refine wp_region_still_tail 16 (by kernel_rfl) (by kernel_rfl) ?_
    simp only [List.take_succ_cons, List.take_zero, List.drop_succ_cons, List.drop_zero]
    change wpStill _ _ (World.drew _) (fun a' => wpList _ _ _ _ a' (World.drew _)) _ _
    have e3 : w.drew.cell? ⟨g, 3, none⟩ = some (.int .i64 (room : Int)) := c3
    have f3 : w.drew.cell? ⟨g', 3, none⟩ = some (.int .i64 (room' : Int)) := d3
    have hz : Hid (Below w.heap.size w w.drew) := (Below.refl _ _).drew
    generalize w.drew = w1 at hlk e3 f3 hz ⊢
    clear c3 d3
    repeat still_step
    refine wpStill_nil ?_
    go_wp2_with (go_at_call 26; refine hlk.out.mono ?_; rintro e w2 ⟨rfl, hb⟩)
    go_ret
    refine ⟨?_, hz.out.trans (hb.mono hz.out.size)⟩
    rw [show decide (room = room' ∧ bs' = bs) = decide (bs' = bs) from by simp [hr'.out]]
    rfl
  · have hq : ((room : Int) == (room' : Int)) = false := by rw [beq_eq_false_iff_ne]; omega
    have hr' := Lib.hid hr
    clear h h' hr
    go_enter Tryd.func14, Tryd.ntmps14
    go_wp2_with (first | (go_at_call 24; (with_reducible refine hn.out.mono ?_); rintro e w' ⟨rfl, rfl⟩) | (go_at_call 24; (with_reducible refine hn'.out.mono ?_); rintro e w' ⟨rfl, rfl⟩))
    go_quiet (fail)
    go_wp2
    go_ret
    exact ⟨by rw [decide_eq_false (fun h => hr'.out h.1)]; rfl, below_draws (Below.refl _ _) _⟩
end Go.Proofs.YtfblkfjjpnnhhaaDoor
