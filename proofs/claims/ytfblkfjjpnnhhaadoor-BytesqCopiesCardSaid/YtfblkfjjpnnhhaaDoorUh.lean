import Derived.Test.YtfblkfjjpnnhhaaDoorUy
namespace Go.Proofs.YtfblkfjjpnnhhaaDoor
open Go.RowKit

set_option maxRecDepth 100000 in
set_option maxHeartbeats 4000000 in
theorem act_push0 (X : Nat → Prop) (d : Deed) (g r room : Nat) (l : List UInt8) (A : Option Addr) (c : Nat) (w : World) (h : Qu w g r room l) (hr : r < w.heap.size) (hp : Fine w (OffX X w g r) ⟨A, l, c⟩) (hX : ∀ k, X k → k < w.heap.size) (hda : Sound w (Off w g r) d.a) (hdb : Sound w (Off w g r) d.b) (hsum : d.a.l.length + d.b.l.length ≤ 300) (hw : d.what = 0) :
    Calls Tryd.prog 11 #[.pointer (some ⟨g, 0, none⟩), refVal ⟨A, l, c⟩ room, .agg #[.int .i64 d.what, .int .i64 d.n, d.a.val, d.b.val]] w (Acted X g r room w) := by
  obtain ⟨i8, hi8, z8, s8, b8⟩ := byte_info
  have hi8' := Lib.hid hi8
  have z8' := Lib.hid z8
  have s8' := Lib.hid s8
  have b8' := Lib.hid b8
  clear hi8 z8 s8 b8
  unfold refVal Part.val
  simp only
  have hp' := Lib.hid hp
  have hX' := Lib.hid hX
  have h' := Lib.hid h
  have hr' := Lib.hid hr
  have hg' := Lib.hid h.lt
  have hda' := Lib.hid hda
  have hdb' := Lib.hid hdb
  clear hp h hr hda hdb hX
  have q0 : (d.what == 0) = true := by rw [beq_iff_eq]; omega
  clear hw
  go_enter Tryd.func11, Tryd.ntmps11
  go_wp2_with fail
  obtain ⟨hbx, hB⟩ := boxes_new w A l.length c room d
  generalize (((w.alloc (.cells #[.slice A l.length c, .int .i64 (room : Int)] 32)).alloc (.cells #[.int .i64 d.what, .int .i64 d.n, .slice d.a.A d.a.l.length d.a.c, .slice d.b.A d.b.l.length d.b.c] 36)).alloc (.cells #[.slice none 0 0, .int .i64 0] 32)) = w1 at hbx hB ⊢
  go_cut [9, 10] from 38 (fun s9 s10 wx => ∃ g3 c3 g4 c4, s9 = .slice (some ⟨g3, 0, none⟩) d.a.l.length c3 ∧ s10 = .slice (some ⟨g4, 0, none⟩) d.b.l.length c4 ∧ Two2 w A l.length c room d g3 c3 g4 c4 wx)
  case first =>
    have hbx1 := Lib.hid ((hbx.below ((Below.refl w1.heap.size w1).alloc (Nat.le_refl _) (.cells #[] 5))).drew)
    have hbx2 := Lib.hid ((hbx.below (((Below.refl w1.heap.size w1).alloc (Nat.le_refl _) (.cells #[] 5)).alloc (by simp) (.cells #[] 5))).drew)
    have hb1 := Lib.hid ((hB.trans (((Below.refl w1.heap.size w1).alloc (Nat.le_refl _) (.cells #[] 5)).mono hB.size)).drew)
    have hb2 := Lib.hid ((hB.trans ((((Below.refl w1.heap.size w1).alloc (Nat.le_refl _) (.cells #[] 5)).alloc (by simp) (.cells #[] 5)).mono hB.size)).drew)
    have z1 : Hid ((w1.alloc (.cells #[] 5)).drew.heap.size = w1.heap.size + 1) := by show (w1.alloc _).heap.size = _; simp
    have z2 : Hid (((w1.alloc (.cells #[] 5)).alloc (.cells #[] 5)).drew.heap.size = w1.heap.size + 2) := by show ((w1.alloc _).alloc _).heap.size = _; simp
    have hA : Hid (Own (w1.alloc (.cells #[] 5)).drew 5 w1.heap.size 0 []) := own_kept (own_empty w1 5) rfl
    have hB1 : Hid (Own ((w1.alloc (.cells #[] 5)).alloc (.cells #[] 5)).drew 5 w1.heap.size 0 []) := own_kept (own_empty w1 5) (Below.heap_alloc _ _ _ (by simp))
    have hB2 : Hid (Own ((w1.alloc (.cells #[] 5)).alloc (.cells #[] 5)).drew 5 (w1.heap.size + 1) 0 []) := by
      have := own_empty (w1.alloc (.cells #[] 5)) 5
      rw [World.size_alloc] at this
      exact own_kept this rfl
    have hz := Lib.hid hbx.size
    have c2 : w1.drew.cell? ⟨w.heap.size + 1, 2, none⟩ = some (.slice d.a.A d.a.l.length d.a.c) := hbx.b1.cell 2
    have c3 : w1.drew.cell? ⟨w.heap.size + 1, 3, none⟩ = some (.slice d.b.A d.b.l.length d.b.c) := hbx.b1.cell 3
    clear hbx hB
    go_region_held3 (fun w' => w'.cell? ⟨w.heap.size + 1, 2, none⟩ = some (.slice d.a.A d.a.l.length d.a.c) ∧ w'.cell? ⟨w.heap.size + 1, 3, none⟩ = some (.slice d.b.A d.b.l.length d.b.c))
      (first | exact ⟨c2, c3⟩ | exact ⟨hT4.out.bx.b1.cell 2, hT4.out.bx.b1.cell 3⟩ | exact ⟨bx3.out.b1.cell 2, bx3.out.b1.cell 3⟩ | exact ⟨(bx3.out.b1.alloc _).cell 2, (bx3.out.b1.alloc _).cell 3⟩ | exact ⟨hbx1.out.b1.cell 2, hbx1.out.b1.cell 3⟩ | exact ⟨hbx2.out.b1.cell 2, hbx2.out.b1.cell 3⟩)
      (first
        | (refine step_append_bytes rfl (.tmp 38) (.tmp 40) 30 rfl 5 i8 _ Tryd.underlying30 hi8'.out z8'.out s8'.out b8'.out rfl w1.heap.size 0 [] rfl hA.out (Off w g r) d.a.A d.a.l d.a.c rfl (hda'.out.1.kept (Kept.below hb1.out (fun k hk => hk.1))) (by simp only [List.length_nil]; omega) ?_
           intro g3 c3 w3 o3 gr3 hg3
           have ge3 : Hid (w.heap.size + 3 ≤ g3) := by show _ ≤ _; rcases hg3 with h | h <;> have := z1.out <;> have := hz.out <;> omega
           have bx3 := Lib.hid (gr3.boxes hbx1.out hz.out)
           have b3 := Lib.hid (hb1.out.trans (gr3.below (by have := hz.out; omega) hb1.out.size))
           have o3' := Lib.hid o3
           have var := Lib.hid (rfl : (1 : Nat) = 1)
           clear o3 gr3 hg3)
        | (refine step_append_bytes rfl (.tmp 38) (.tmp 40) 30 rfl 5 i8 _ Tryd.underlying30 hi8'.out z8'.out s8'.out b8'.out rfl w1.heap.size 0 [] rfl hB1.out (Off w g r) d.a.A d.a.l d.a.c rfl (hda'.out.1.kept (Kept.below hb2.out (fun k hk => hk.1))) (by simp only [List.length_nil]; omega) ?_
           intro g3 c3 w3 o3 gr3 hg3
           have ge3 : Hid (w.heap.size + 3 ≤ g3) := by show _ ≤ _; rcases hg3 with h | h <;> have := z2.out <;> have := hz.out <;> omega
           have bx3 := Lib.hid (gr3.boxes hbx2.out hz.out)
           have b3 := Lib.hid (hb2.out.trans (gr3.below (by have := hz.out; omega) hb2.out.size))
           have o3' := Lib.hid o3
           have oB := Lib.hid (gr3.other hB2.out (by omega))
           have neB : Hid (g3 ≠ w1.heap.size + 1) := by show _ ≠ _; rcases hg3 with h | h <;> have := z2.out <;> omega
           clear o3 gr3 hg3)
        | (refine step_append_bytes rfl (.tmp 38) (.tmp 40) 30 rfl 5 i8 _ Tryd.underlying30 hi8'.out z8'.out s8'.out b8'.out rfl (w1.heap.size + 1) 0 [] rfl hB2.out (Off w g r) d.a.A d.a.l d.a.c rfl (hda'.out.1.kept (Kept.below hb2.out (fun k hk => hk.1))) (by simp only [List.length_nil]; omega) ?_
           intro g3 c3 w3 o3 gr3 hg3
           have ge3 : Hid (w.heap.size + 3 ≤ g3) := by show _ ≤ _; rcases hg3 with h | h <;> have := z2.out <;> have := hz.out <;> omega
           have bx3 := Lib.hid (gr3.boxes hbx2.out (by have := hz.out; omega))
           have b3 := Lib.hid (hb2.out.trans (gr3.below (by have := hz.out; omega) hb2.out.size))
           have o3' := Lib.hid o3
           have oC := Lib.hid (gr3.other hB1.out (by omega))
           have neC : Hid (g3 ≠ w1.heap.size) := by show _ ≠ _; rcases hg3 with h | h <;> have := z2.out <;> omega
           clear o3 gr3 hg3)
        | (refine step_append_bytes rfl (.tmp 42) (.tmp 44) 30 rfl 5 i8 _ Tryd.underlying30 hi8'.out z8'.out s8'.out b8'.out rfl (w1.heap.size + 1) 0 [] rfl oB.out (Off w g r) d.b.A d.b.l d.b.c rfl (hdb'.out.1.kept (Kept.below b3.out (fun k hk => hk.1))) (by simp only [List.length_nil]; omega) ?_
           intro g4 c4 w4 o4 gr4 hg4
           have hT4 : Hid (Two2 w A l.length c room d g3 c3 g4 c4 w4) := by
             have h1 := ge3.out; have h2 := hz.out; have h3 := neB.out; have h4 := o3'.out.lt.1; have h5 := b3.out.size
             have h6 : w.heap.size + 3 ≤ w1.heap.size + 1 := by omega
             exact ⟨gr4.boxes bx3.out h6, gr4.other o3'.out h3, o4, by rcases hg4 with h | h <;> omega, h1, by rcases hg4 with h | h <;> have := bx3.out.size <;> omega, b3.out.trans (gr4.below (by omega) h5)⟩
           clear o4 gr4 hg4)
        | (refine step_append_bytes rfl (.tmp 42) (.tmp 44) 30 rfl 5 i8 _ Tryd.underlying30 hi8'.out z8'.out s8'.out b8'.out rfl w1.heap.size 0 [] rfl oC.out (Off w g r) d.b.A d.b.l d.b.c rfl (hdb'.out.1.kept (Kept.below b3.out (fun k hk => hk.1))) (by simp only [List.length_nil]; omega) ?_
           intro g4 c4 w4 o4 gr4 hg4
           have hT4 : Hid (Two2 w A l.length c room d g3 c3 g4 c4 w4) := by
             have h1 := ge3.out; have h2 := hz.out; have h3 := neC.out; have h4 := o3'.out.lt.1; have h5 := b3.out.size
             exact ⟨gr4.boxes bx3.out h2, gr4.other o3'.out h3, o4, by rcases hg4 with h | h <;> omega, h1, by rcases hg4 with h | h <;> have := bx3.out.size <;> omega, b3.out.trans (gr4.below (by omega) h5)⟩
           clear o4 gr4 hg4)
        | (refine step_append_bytes rfl (.tmp 42) (.tmp 44) 30 rfl 5 i8 _ Tryd.underlying30 hi8'.out z8'.out s8'.out b8'.out rfl w3.heap.size 0 [] rfl (own_empty w3 5) (Off w g r) d.b.A d.b.l d.b.c rfl (hdb'.out.1.kept (Kept.below (b3.out.alloc b3.out.size _) (fun k hk => hk.1))) (by simp only [List.length_nil]; omega) ?_
           intro g4 c4 w4 o4 gr4 hg4
           have hT4 : Hid (Two2 w A l.length c room d g3 c3 g4 c4 w4) := by
             have h1 := ge3.out; have h2 := hz.out; have h4 := o3'.out.lt.1; have h5 := b3.out.size; have h6 := bx3.out.size
             have h7 : (w3.alloc (.cells #[] 5)).heap.size = w3.heap.size + 1 := by simp
             have ba := (Below.refl w3.heap.size w3).alloc (Nat.le_refl _) (.cells #[] 5)
             exact ⟨gr4.boxes (bx3.out.below ba) h6, gr4.other (own_kept o3'.out (ba.block g3 h4)) (by omega), o4, by rcases hg4 with h | h <;> omega, h1, by rcases hg4 with h | h <;> omega, (b3.out.alloc h5 _).trans (gr4.below (by omega) (by omega))⟩
           clear o4 gr4 hg4)
        | fail)
    all_goals
      go_wp2
      go_meet
      case rel => exact ⟨_, _, _, _, rfl, rfl, hT4.out⟩
  case rest =>
    obtain ⟨g3, c3, g4, c4, rfl, rfl, hT⟩ := hcut
    obtain ⟨l', no, hpu⟩ := pushes_is l (d.a.l ++ d.b.l) room
    have hpu := Lib.hid hpu
    go_wp2
    go_cut [11, 12] from 46 (fun s11 s12 wx => ∃ zb PA pc, s11 = .pointer (some ⟨zb, 0, none⟩) ∧ s12 = .int .i64 no ∧ Told X w A l l' c room g r d g3 c3 g4 c4 zb PA pc wx)
    case first =>
      have hle := hT.o3.lt.1
      have hle4 := hT.o4.lt.1
      have e0 : wc.drew.cell? ⟨w.heap.size, 0, none⟩ = some (.slice A l.length c) := hT.bx.b0.cell 0
      have e1 : wc.drew.cell? ⟨w.heap.size, 1, none⟩ = some (.int .i64 (room : Int)) := hT.bx.b0.cell 1
      have be := (Below.refl wc.heap.size wc).alloc (Nat.le_refl _) (.cells #[] 5)
      have bz := (Below.refl wc.heap.size wc).alloc (Nat.le_refl _) (.cells #[.slice none 0 0, .int .i64 0] 32)
      have hzd0 : Hid ((wc.alloc (.cells #[] 5)).drew.heap.size = wc.heap.size + 1) := by show (wc.alloc _).heap.size = _; simp
      have hzd1 : Hid (((wc.alloc (.cells #[.slice none 0 0, .int .i64 0] 32)).alloc (.cells #[] 5)).drew.heap.size = wc.heap.size + 2) := by show ((wc.alloc _).alloc _).heap.size = _; simp
      have hzd2 : Hid (((wc.alloc (.cells #[] 5)).alloc (.cells #[.slice none 0 0, .int .i64 0] 32)).drew.heap.size = wc.heap.size + 2) := by show ((wc.alloc _).alloc _).heap.size = _; simp
      have hTd0 : Hid (Two2 w A l.length c room d g3 c3 g4 c4 (wc.alloc (.cells #[] 5)).drew) := hT.below be.drew
      have hTdz : Hid (Two2 w A l.length c room d g3 c3 g4 c4 (wc.alloc (.cells #[.slice none 0 0, .int .i64 0] 32)).drew) := hT.below bz.drew
      have hTd1 : Hid (Two2 w A l.length c room d g3 c3 g4 c4 ((wc.alloc (.cells #[.slice none 0 0, .int .i64 0] 32)).alloc (.cells #[] 5)).drew) := hT.below (bz.alloc (by simp) _).drew
      have hTd2 : Hid (Two2 w A l.length c room d g3 c3 g4 c4 ((wc.alloc (.cells #[] 5)).alloc (.cells #[.slice none 0 0, .int .i64 0] 32)).drew) := hT.below (be.alloc (by simp) _).drew
      have hA0 : Hid (Own (wc.alloc (.cells #[] 5)).drew 5 wc.heap.size 0 []) := own_kept (own_empty wc 5) rfl
      have hA1 : Hid (Own ((wc.alloc (.cells #[.slice none 0 0, .int .i64 0] 32)).alloc (.cells #[] 5)).drew 5 (wc.heap.size + 1) 0 []) := by
        have := own_empty (wc.alloc (.cells #[.slice none 0 0, .int .i64 0] 32)) 5
        rw [World.size_alloc] at this
        exact own_kept this rfl
      have hA2 : Hid (Own ((wc.alloc (.cells #[] 5)).alloc (.cells #[.slice none 0 0, .int .i64 0] 32)).drew 5 wc.heap.size 0 []) := own_kept (own_empty wc 5) (Below.heap_alloc _ _ _ (by simp))
      have hZ1 : Hid (Zb wc.heap.size wc.heap.size (wc.heap.size + 1) ((wc.alloc (.cells #[.slice none 0 0, .int .i64 0] 32)).alloc (.cells #[] 5)).drew) := ⟨(Has.new wc _ _).alloc _, by omega, Nat.le_refl _⟩
      have hZ2 : Hid (Zb wc.heap.size (wc.heap.size + 1) wc.heap.size ((wc.alloc (.cells #[] 5)).alloc (.cells #[.slice none 0 0, .int .i64 0] 32)).drew) := ⟨by have := Has.new (wc.alloc (.cells #[] 5)) 32 #[.slice none 0 0, .int .i64 0]; rw [World.size_alloc] at this; exact this, by omega, by omega⟩
      have hszc := Lib.hid hT.bx.size
      have hge3 := Lib.hid hT.ge3
      have hy : Hid ((d.a.l ++ d.b.l).length = d.a.l.length + d.b.l.length) := List.length_append
      have hroom := Lib.hid h'.out.small
      clear hT be bz
      go_wp2
      go_region_held3 (fun w' => w'.cell? ⟨w.heap.size, 0, none⟩ = some (.slice A l.length c) ∧ w'.cell? ⟨w.heap.size, 1, none⟩ = some (.int .i64 (room : Int)))
        (first | exact ⟨e0, e1⟩ | exact ⟨hT7.out.bx.b0.cell 0, hT7.out.bx.b0.cell 1⟩ | exact ⟨(hT7.out.bx.b0.alloc _).cell 0, (hT7.out.bx.b0.alloc _).cell 1⟩ | exact ⟨hT6.out.bx.b0.cell 0, hT6.out.bx.b0.cell 1⟩ | exact ⟨(hT6.out.bx.b0.alloc _).cell 0, (hT6.out.bx.b0.alloc _).cell 1⟩ | exact ⟨hT5.out.bx.b0.cell 0, hT5.out.bx.b0.cell 1⟩ | exact ⟨(hT5.out.bx.b0.alloc _).cell 0, (hT5.out.bx.b0.alloc _).cell 1⟩ | exact ⟨((hT7.out.bx.b0.other (by have := hZ7.out.1.ge; have := hszc.out; omega) _).other (by have := hZ7.out.1.ge; have := hszc.out; omega) _).cell 0, ((hT7.out.bx.b0.other (by have := hZ7.out.1.ge; have := hszc.out; omega) _).other (by have := hZ7.out.1.ge; have := hszc.out; omega) _).cell 1⟩ | exact ⟨(((hT7.out.bx.b0.alloc _).other hn7.out _).other hn7.out _).cell 0, (((hT7.out.bx.b0.alloc _).other hn7.out _).other hn7.out _).cell 1⟩ | exact ⟨hTd1.out.bx.b0.cell 0, hTd1.out.bx.b0.cell 1⟩ | exact ⟨hTd2.out.bx.b0.cell 0, hTd2.out.bx.b0.cell 1⟩ | exact ⟨hTd0.out.bx.b0.cell 0, hTd0.out.bx.b0.cell 1⟩ | exact ⟨hTdz.out.bx.b0.cell 0, hTdz.out.bx.b0.cell 1⟩)
        (first
      | (refine step_append_bytes rfl (.tmp 48) (.tmp 49) 30 rfl 5 i8 _ Tryd.underlying30 hi8'.out z8'.out s8'.out b8'.out rfl wc.heap.size 0 [] rfl hA0.out (· = g3) (some ⟨g3, 0, none⟩) d.a.l c3 rfl hTd0.out.o3.rd (by simp only [List.length_nil]; omega) ?_
         intro g5 c5 w5 o5 gr5 hg5
         have hg5' : Hid (wc.heap.size ≤ g5) := by show _ ≤ _; rcases hg5 with h | h <;> have := hzd0.out <;> omega
         have hT5 := Lib.hid (hTd0.out.grew gr5 (by have := hg5'.out; omega) (by have := hg5'.out; omega) (by have := hg5'.out; have := hszc.out; omega))
         have hz5 : Hid (wc.heap.size + 1 ≤ w5.heap.size) := by have := gr5.size; have := hzd0.out; show _ ≤ _; omega
         have o5' := Lib.hid o5
         clear o5 gr5 hg5)
      | (refine step_append_bytes rfl (.tmp 48) (.tmp 49) 30 rfl 5 i8 _ Tryd.underlying30 hi8'.out z8'.out s8'.out b8'.out rfl (wc.heap.size + 1) 0 [] rfl hA1.out (· = g3) (some ⟨g3, 0, none⟩) d.a.l c3 rfl hTd1.out.o3.rd (by simp only [List.length_nil]; omega) ?_
         intro g5 c5 w5 o5 gr5 hg5
         have hg5' : Hid (wc.heap.size ≤ g5) := by show _ ≤ _; rcases hg5 with h | h <;> have := hzd1.out <;> omega
         have hT5 := Lib.hid (hTd1.out.grew gr5 (by have := hg5'.out; omega) (by have := hg5'.out; omega) (by have := hg5'.out; have := hszc.out; omega))
         have hZ5 := Lib.hid (hZ1.out.grew gr5 hg5)
         have hz5 : Hid (wc.heap.size + 1 ≤ w5.heap.size) := by have := gr5.size; have := hzd1.out; show _ ≤ _; omega
         have o5' := Lib.hid o5
         clear o5 gr5 hg5)
      | (refine step_append_bytes rfl (.tmp 48) (.tmp 49) 30 rfl 5 i8 _ Tryd.underlying30 hi8'.out z8'.out s8'.out b8'.out rfl wc.heap.size 0 [] rfl hA2.out (· = g3) (some ⟨g3, 0, none⟩) d.a.l c3 rfl hTd2.out.o3.rd (by simp only [List.length_nil]; omega) ?_
         intro g5 c5 w5 o5 gr5 hg5
         have hg5' : Hid (wc.heap.size ≤ g5) := by show _ ≤ _; rcases hg5 with h | h <;> have := hzd2.out <;> omega
         have hT5 := Lib.hid (hTd2.out.grew gr5 (by have := hg5'.out; omega) (by have := hg5'.out; omega) (by have := hg5'.out; have := hszc.out; omega))
         have hZ5 := Lib.hid (hZ2.out.grew gr5 hg5)
         have hz5 : Hid (wc.heap.size + 1 ≤ w5.heap.size) := by have := gr5.size; have := hzd2.out; show _ ≤ _; omega
         have o5' := Lib.hid o5
         clear o5 gr5 hg5)
      | (refine step_append_bytes rfl (.tmp 50) (.tmp 51) 30 rfl 5 i8 _ Tryd.underlying30 hi8'.out z8'.out s8'.out b8'.out rfl g5 c5 _ rfl o5'.out (· = g4) (some ⟨g4, 0, none⟩) d.b.l c4 rfl hT5.out.o4.rd (by first | omega | (simp only [List.nil_append]; omega)) ?_
         intro g6 c6 w6 o6 gr6 hg6
         have hg6' : Hid (wc.heap.size ≤ g6) := by show _ ≤ _; rcases hg6 with h | h <;> have := hz5.out <;> have := hg5'.out <;> omega
         have hT6 := Lib.hid (hT5.out.grew gr6 (by have := hg5'.out; omega) (by have := hg5'.out; omega) (by have := hg5'.out; have := hszc.out; omega))
         try (have hZ6 := Lib.hid (hZ5.out.grew gr6 hg6))
         have hz6 : Hid (wc.heap.size + 1 ≤ w6.heap.size) := by have := gr6.size; have := hz5.out; show _ ≤ _; omega
         have o6' : Hid (Own w6 5 g6 c6 (d.a.l ++ d.b.l)) := o6
         clear o6 gr6 hg6)
      | (refine step_append_bytes rfl (.tmp 50) (.tmp 51) 30 rfl 5 i8 _ Tryd.underlying30 hi8'.out z8'.out s8'.out b8'.out rfl g5 c5 _ rfl (own_kept o5'.out (Below.heap_alloc w5 (.cells #[.slice none 0 0, .int .i64 0] 32) g5 o5'.out.lt.1)) (· = g4) (some ⟨g4, 0, none⟩) d.b.l c4 rfl (hT5.out.below ((Below.refl w5.heap.size w5).alloc (Nat.le_refl _) (.cells #[.slice none 0 0, .int .i64 0] 32))).o4.rd (by first | omega | (simp only [List.nil_append]; omega)) ?_
         intro g6 c6 w6 o6 gr6 hg6
         have hg6' : Hid (wc.heap.size ≤ g6) := by show _ ≤ _; rcases hg6 with h | h <;> have := (up_alloc (.cells #[.slice none 0 0, .int .i64 0] 32) hz5.out) <;> have := hg5'.out <;> omega
         have hT6 := Lib.hid ((hT5.out.below ((Below.refl w5.heap.size w5).alloc (Nat.le_refl _) (.cells #[.slice none 0 0, .int .i64 0] 32))).grew gr6 (by have := hg5'.out; omega) (by have := hg5'.out; omega) (by have := hg5'.out; have := hszc.out; omega))
         have hZ6 := Lib.hid ((zb_new (c0 := wc.heap.size) w5 o5'.out.lt.1 (by have := hz5.out; omega)).grew gr6 hg6)
         have hz6 : Hid (wc.heap.size + 1 ≤ w6.heap.size) := by have := gr6.size; have := (up_alloc (.cells #[.slice none 0 0, .int .i64 0] 32) hz5.out); show _ ≤ _; omega
         have o6' : Hid (Own w6 5 g6 c6 (d.a.l ++ d.b.l)) := o6
         clear o6 gr6 hg6)
      | (go_at_call 22; refine (refPush_uni hpu.out A c (some ⟨g6, 0, none⟩) c6 _ (fun k => OffX X w g r k ∨ k = g6) w6 hy.out.symm ((hp'.out.kept (Kept.below hT6.out.b (fun k hk => hk.1))).mono (fun k hk => .inl hk)) (o6'.out.rd.mono (fun k hk => .inr hk)) (fun k hk => by
           rcases hk with hk | hk
           · exact Nat.lt_of_lt_of_le hk.1 hT6.out.b.size
           · rw [hk]; exact o6'.out.lt.1) hroom.out.1 hroom.out.2 (by rw [hy.out]; omega)).mono ?_
         rintro e w7 ⟨PA, pc, rfl, hF7, hB7⟩
         have hF7' : Hid (Fine w7 (fun k => OffX X w g r k ∨ k = g6 ∨ (w6.heap.size ≤ k ∧ k < w7.heap.size)) ⟨PA, l', pc⟩) := hF7.mono (fun k hk => by rcases hk with (hk | hk) | hk; exact .inl hk; exact .inr (.inl hk); exact .inr (.inr hk))
         have hT7 := Lib.hid (hT6.out.below hB7)
         have hz7 : Hid (wc.heap.size + 1 ≤ w6.heap.size ∧ w6.heap.size ≤ w7.heap.size ∧ g6 < w7.heap.size) := by
           have h1 := o6'.out.lt.1
           have h2 := hB7.size
           have h3 := hT6.out.b.size
           have h4 := hz6.out
           try simp only [World.size_alloc] at h1 h2 ⊢
           exact ⟨by omega, h2, by omega⟩
         try (have hZ7 := Lib.hid (And.intro (hZ6.out.below hB7) hZ6.out.has.lt))
         try (have d0 := hZ7.out.1.has.cell 0
              have d1 := hZ7.out.1.has.cell 1
              have f0 := hZ7.out.1.has.free 0
              have f1 := hZ7.out.1.has.free 1
              simp at d0 d1)
         clear hF7 hB7)
      | (go_at_call 22; refine (refPush_uni hpu.out A c (some ⟨g6, 0, none⟩) c6 _ (fun k => OffX X w g r k ∨ k = g6) (w6.alloc (.cells #[.slice none 0 0, .int .i64 0] 32)) hy.out.symm ((hp'.out.kept (Kept.below (hT6.out.below ((Below.refl w6.heap.size w6).alloc (Nat.le_refl _) (.cells #[.slice none 0 0, .int .i64 0] 32))).b (fun k hk => hk.1))).mono (fun k hk => .inl hk)) ((own_kept o6'.out (Below.heap_alloc w6 (.cells #[.slice none 0 0, .int .i64 0] 32) g6 o6'.out.lt.1)).rd.mono (fun k hk => .inr hk)) (fun k hk => by
           rcases hk with hk | hk
           · exact Nat.lt_of_lt_of_le hk.1 (hT6.out.below ((Below.refl w6.heap.size w6).alloc (Nat.le_refl _) (.cells #[.slice none 0 0, .int .i64 0] 32))).b.size
           · rw [hk]; exact (own_kept o6'.out (Below.heap_alloc w6 (.cells #[.slice none 0 0, .int .i64 0] 32) g6 o6'.out.lt.1)).lt.1) hroom.out.1 hroom.out.2 (by rw [hy.out]; omega)).mono ?_
         rintro e w7 ⟨PA, pc, rfl, hF7, hB7⟩
         have hF7' : Hid (Fine w7 (fun k => OffX X w g r k ∨ k = g6 ∨ ((w6.alloc (.cells #[.slice none 0 0, .int .i64 0] 32)).heap.size ≤ k ∧ k < w7.heap.size)) ⟨PA, l', pc⟩) := hF7.mono (fun k hk => by rcases hk with (hk | hk) | hk; exact .inl hk; exact .inr (.inl hk); exact .inr (.inr hk))
         have hT7 := Lib.hid ((hT6.out.below ((Below.refl w6.heap.size w6).alloc (Nat.le_refl _) (.cells #[.slice none 0 0, .int .i64 0] 32))).below hB7)
         have hz7 : Hid (wc.heap.size + 1 ≤ (w6.alloc (.cells #[.slice none 0 0, .int .i64 0] 32)).heap.size ∧ (w6.alloc (.cells #[.slice none 0 0, .int .i64 0] 32)).heap.size ≤ w7.heap.size ∧ g6 < w7.heap.size) := by
           have h1 := (own_kept o6'.out (Below.heap_alloc w6 (.cells #[.slice none 0 0, .int .i64 0] 32) g6 o6'.out.lt.1)).lt.1
           have h2 := hB7.size
           have h3 := (hT6.out.below ((Below.refl w6.heap.size w6).alloc (Nat.le_refl _) (.cells #[.slice none 0 0, .int .i64 0] 32))).b.size
           have h4 := hz6.out
           try simp only [World.size_alloc] at h1 h2 ⊢
           exact ⟨by omega, h2, by omega⟩
         have hZ7 := Lib.hid (And.intro ((zb_new (c0 := wc.heap.size) w6 o6'.out.lt.1 (by have := hz6.out; omega)).below hB7) (zb_new (c0 := wc.heap.size) w6 o6'.out.lt.1 (by have := hz6.out; omega)).has.lt)
         try (have d0 := hZ7.out.1.has.cell 0
              have d1 := hZ7.out.1.has.cell 1
              have f0 := hZ7.out.1.has.free 0
              have f1 := hZ7.out.1.has.free 1
              simp at d0 d1)
         clear hF7 hB7)
      | fail)
      all_goals
        go_wp2
        go_meet
        case rel =>
          have h1 := hge3.out
          have h2 := hszc.out
          have h3 := hz7.out
          have h4 := hg6'.out
          have h5 := hg'.out
          have h6 := hr'.out
          first
            | exact ⟨_, _, _, rfl, rfl, told_put (ge := g6) hX'.out hT7.out hZ7.out.1 hF7'.out hle hle4 h2 hZ7.out.2 (by omega) h5 h6 ⟨h4, h3.2.2⟩⟩
            | exact ⟨_, _, _, rfl, rfl, told_new (ge := g6) hX'.out hT7.out hF7'.out hle hle4 h2 (by omega) h3.2.1 h5 h6 ⟨h4, h3.2.2⟩⟩
    case rest =>
      obtain ⟨zb, PA, pc, rfl, rfl, hTo⟩ := hcut
      have hba := (Below.refl wc.heap.size wc).alloc (Nat.le_refl _) (.cells #[.slice (some ⟨g3, 0, none⟩) d.a.l.length c3, .slice (some ⟨g4, 0, none⟩) d.b.l.length c4] 30)
      have hza : (wc.alloc (.cells #[.slice (some ⟨g3, 0, none⟩) d.a.l.length c3, .slice (some ⟨g4, 0, none⟩) d.b.l.length c4] 30)).heap.size = wc.heap.size + 1 := by simp
      have hTw := hTo.two.below hba
      have l3 := hTo.two.o3.lt
      have l4 := hTo.two.o4.lt
      have hm : maxLen = 9223372036854775807 := rfl
      have hrowp : (wc.alloc (.cells #[.slice (some ⟨g3, 0, none⟩) d.a.l.length c3, .slice (some ⟨g4, 0, none⟩) d.b.l.length c4] 30)).heap[wc.heap.size]? = some (.cells #[.slice (some ⟨g3, 0, none⟩) d.a.l.length c3, .slice (some ⟨g4, 0, none⟩) d.b.l.length c4] 30 (0, 0)) := World.alloc_heap_new wc _
      have hparts : Parts (wc.alloc (.cells #[.slice (some ⟨g3, 0, none⟩) d.a.l.length c3, .slice (some ⟨g4, 0, none⟩) d.b.l.length c4] 30)) (fun k => k = g3 ∨ k = g4 ∨ k = wc.heap.size) (some ⟨wc.heap.size, 0, none⟩) [⟨some ⟨g3, 0, none⟩, d.a.l, c3⟩, ⟨some ⟨g4, 0, none⟩, d.b.l, c4⟩] :=
        parts_two (cell_of_row _ _ 0 _ _ _ hrowp) (cell_of_row _ _ 1 _ _ _ hrowp) (.inr (.inr rfl)) ⟨hTw.o3.rd.mono (fun k hk => .inl hk), l3.2.1, by show d.a.l.length ≤ _ ∧ c3 ≤ _; omega⟩ ⟨hTw.o4.rd.mono (fun k hk => .inr (.inl hk)), l4.2.1, by show d.b.l.length ≤ _ ∧ c4 ≤ _; omega⟩
      have hQw := h'.out.below hTw.b
      have hr1 := hr'.out
      have hg1 := hg'.out
      have hn3 := hTo.two.ge3
      have hn4 := hTo.two.ge4
      have hcall := Lib.hid (push_uni hpu.out g r 2 2 (some ⟨wc.heap.size, 0, none⟩) _ _ (wc.alloc (.cells #[.slice (some ⟨g3, 0, none⟩) d.a.l.length c3, .slice (some ⟨g4, 0, none⟩) d.b.l.length c4] 30)) hQw (by have := hTw.b.size; omega) hparts (fun k hk => by have := hTw.b.size; have := hTo.two.bx.size; rcases hk with hk | hk | hk <;> omega) rfl (by omega) (by simp [cat]))
      have hbw := Lib.hid hTw.b
      have hTo2 : Hid (Told X w A l l' c room g r d g3 c3 g4 c4 zb PA pc (wc.alloc (.cells #[.slice (some ⟨g3, 0, none⟩) d.a.l.length c3, .slice (some ⟨g4, 0, none⟩) d.b.l.length c4] 30))) := ⟨hTw, hTo.box.below hba hTo.box.lt, hTo.ne3, hTo.ne4, hTo.ge, (hTo.fine.kept (Kept.below hba (fun k hk => hk.1))).mono (fun k hk => by rw [hza]; exact ⟨by have := hk.1; omega, hk.2⟩)⟩
      clear hTo hba hza hTw l3 l4 hrowp hparts hQw
      go_wp2_with fail
      refine hcall.out.mono ?_
      generalize wc.alloc (.cells #[.slice (some ⟨g3, 0, none⟩) d.a.l.length c3, .slice (some ⟨g4, 0, none⟩) d.b.l.length c4] 30) = w8 at hbw hTo2
      rintro e w9 ⟨rfl, r', hQ9, hlt9, hr9, hT9⟩
      have hk8 := hTo2.out
      have hbx9 : Boxes w A l.length c room d w9 := hk8.two.bx.turn hT9 hg1 hr1
      obtain ⟨cur0, hcur0, hby0⟩ := (own_kept (W' := w9) hk8.two.o3 (hT9.block g3 hk8.two.o3.lt.1 (by omega) (by omega))).bytey
      have hbox9 : Hid (Has w9 zb _ _) := (hT9.block zb hk8.box.lt (by have := hk8.ge; omega) (by have := hk8.ge; omega)).trans hk8.box
      have hF9 : Hid (Fine w9 (fun k => (k < w8.heap.size ∧ k ≠ g ∧ k ≠ r ∧ k ≠ w.heap.size + 1 + 1 ∧ k ≠ g3 ∧ ¬ X k)) ⟨PA, l', pc⟩) := hk8.fine.kept (hT9.kept (fun k hk => ⟨hk.1, hk.2.1, hk.2.2.1⟩))
      have hQ9' := Lib.hid hQ9
      have hbx9' := Lib.hid hbx9
      have hT9' := Lib.hid ((turn_of_below (g := g) (r := r) hbw.out).trans hT9 (.inl rfl))
      have hz9 := Lib.hid (And.intro hT9.size (And.intro hk8.ne3 (And.intro hk8.ge hk8.two.bx.size)))
      have hr9' := Lib.hid (And.intro hlt9 hr9)
      have hcur0' := Lib.hid hcur0
      have hby0' := Lib.hid hby0
      have hg38 := Lib.hid hk8.two.o3.lt.1
      clear hcall hQ9 hlt9 hr9 hT9 hk8 hbx9 hcur0 hby0 hTo2 hbw
      go_wp2
      go_loopw [14] (fun i wr => ∃ (k : Nat) (cur : Array Value), k ≤ d.a.l.length ∧ i = .int .i64 k ∧ Has wr g3 5 cur ∧ Bytey cur d.a.l.length ∧ Only g3 w9 wr) (fun i _ => d.a.l.length - (intOf i).toNat)
      case atStart => exact ⟨0, cur0, Nat.zero_le _, rfl, hcur0'.out, hby0'.out, Only.refl _ _⟩
      case round =>
        obtain ⟨k, cur, hk, rfl, hhas, hbyt, hox⟩ := hrel
        have hox' := Lib.hid hox
        have hhas' := Lib.hid hhas
        have hbyt' := Lib.hid hbyt
        clear hox hhas hbyt
        by_cases hlt : k < d.a.l.length
        · obtain ⟨b, hb⟩ := hbyt'.out k hlt
          have hby : wr.cell? ⟨g3, k, none⟩ = some (.int .u8 (b.toNat : Int)) := (hhas'.out.cell k).trans hb
          have hfr : wr.frozen? ⟨g3, k, none⟩ = false := hhas'.out.free k
          have hup := byte_up b
          have hlti : (k : Int) < (d.a.l.length : Int) := by omega
          clear hb
          go_wp2
          go_roundw
          case rel => exact ⟨k + 1, _, by omega, by go_num, hhas'.out.put k _, hbyt'.out.set k (b + 1), hox'.out.trans (only_setCell _ _ _ _)⟩
          case measure => simp [intOf]; omega
        · obtain rfl : k = d.a.l.length := by omega
          have hz := hz9.out
          have hne : w.heap.size + 1 + 1 ≠ g3 := by omega
          have hbx : Hid (Boxes w A l.length c room d wr) := hbx9'.out.only hox'.out hn3
          have kz : Has wr.drew zb _ _ := (hox'.out.block zb hz.2.1).trans hbox9.out
          have e0 : wr.drew.cell? ⟨zb, 0, none⟩ = some (.slice PA l'.length pc) := kz.cell 0
          have e1 : wr.drew.cell? ⟨zb, 1, none⟩ = some (.int .i64 (room : Int)) := kz.cell 1
          have d0 : wr.cell? ⟨w.heap.size + 1 + 1, 0, none⟩ = some (.slice none 0 0) := hbx.out.b2.cell 0
          have d1 : wr.cell? ⟨w.heap.size + 1 + 1, 1, none⟩ = some (.int .i64 0) := hbx.out.b2.cell 1
          have f0 : wr.frozen? ⟨w.heap.size + 1 + 1, 0, none⟩ = false := hbx.out.b2.free 0
          have f1 : wr.frozen? ⟨w.heap.size + 1 + 1, 1, none⟩ = false := hbx.out.b2.free 1
          have hne2 : zb ≠ w.heap.size + 1 + 1 := by omega
          have hrr := hr9'.out
          have hg3r : g3 ≠ r' := by have := hg38.out; have := hz; omega
          have hQ10 := Lib.hid (hQ9'.out.kept (hox'.out.block g (by omega)) (hox'.out.block r' (fun e => hg3r e.symm)))
          have hF10 := Lib.hid (hF9.out.kept (fun k hk => hox'.out.block k hk.2.2.2.2.1))
          have hT10 : Hid (Turn g r w wr) := ⟨hox'.out.os.trans hT9'.out.os, hox'.out.tape.trans hT9'.out.tape, hox'.out.output.trans hT9'.out.output, by rw [hox'.out.size]; exact hT9'.out.size, fun k hk h1 h2 => (hox'.out.block k (by omega)).trans (hT9'.out.block k hk h1 h2)⟩
          have hrr2 : Hid (r' < wr.heap.size ∧ w8.heap.size ≤ wr.heap.size) := by rw [Hid, hox'.out.size]; exact ⟨hrr.1, hz.1⟩
          clear kz
          go_wp2
          go_region_held3 (fun w' => w'.cell? ⟨zb, 0, none⟩ = some (.slice PA l'.length pc) ∧ w'.cell? ⟨zb, 1, none⟩ = some (.int .i64 (room : Int)))
            (first | exact ⟨e0, e1⟩ | exact ⟨(World.cell?_of_block (a := ⟨zb, 0, none⟩) (((only_setCell (w.heap.size + 1 + 1) 0 _ _).trans (only_setCell (w.heap.size + 1 + 1) 1 _ _)).block zb hne2)).trans e0, (World.cell?_of_block (a := ⟨zb, 1, none⟩) (((only_setCell (w.heap.size + 1 + 1) 0 _ _).trans (only_setCell (w.heap.size + 1 + 1) 1 _ _)).block zb hne2)).trans e1⟩)
            (first | (go_at_call 10; refine (num_any _ _).mono ?_; rintro e w' ⟨rfl, rfl⟩) | fail)
          all_goals
            go_wp2
            obtain ⟨x0, x1⟩ := hbx.out.stored (.slice PA l'.length pc) (.int .i64 (room : Int))
            refine bodyPost_ret (v := .tuple #[.pointer (some ⟨g, 0, none⟩), .agg #[.slice PA l'.length pc, .int .i64 (room : Int)], .bool true]) (by simp [results, Tryd.results11, go_sem, x0, x1]) rfl ?_
            have h2 := hrr2.out
            refine Acted.drew (acted_of (p' := ⟨PA, l', pc⟩) hbx.out hT10.out _ _ hQ10.out h2.1 rfl (hF10.out.mono ?_) (.inl ⟨rfl, by omega⟩) (by omega) (by omega) rfl)
            rintro k ⟨k1, k2, k3, k4, k5, k6⟩
            exact ⟨⟨by omega, k2, by omega, k6⟩, k4⟩
end Go.Proofs.YtfblkfjjpnnhhaaDoor
