import Derived.Test.YtfblkfjjpnnhhaaDoorUd
namespace Go.Proofs.YtfblkfjjpnnhhaaDoor
open Go.RowKit

theorem Acted.drew {X : Nat → Prop} {g r room : Nat} {W W' : World} {e : Ending} (h : Acted X g r room W e W') : Acted X g r room W e W'.drew := by
  obtain ⟨g', r', l', p', he, hQ, hl, hp, hF, hT, hgr⟩ := h
  exact ⟨g', r', l', p', he, hQ.kept rfl rfl, hl, hp, hF.kept (fun _ _ => rfl), hT.drew, hgr⟩
set_option maxRecDepth 100000 in
set_option maxHeartbeats 2000000 in
theorem act_drop (X : Nat → Prop) (d : Deed) (g r room : Nat) (l : List UInt8) (A : Option Addr) (c : Nat) (w : World) (h : Qu w g r room l) (hr : r < w.heap.size) (hp : Fine w (OffX X w g r) ⟨A, l, c⟩) (hw : d.what = 5) :
    Calls Tryd.prog 11 #[.pointer (some ⟨g, 0, none⟩), refVal ⟨A, l, c⟩ room, .agg #[.int .i64 d.what, .int .i64 d.n, d.a.val, d.b.val]] w (Acted X g r room w) := by
  unfold refVal Part.val
  simp only
  have hp' := Lib.hid hp
  have h' := Lib.hid h
  have hr' := Lib.hid hr
  have hg' := Lib.hid h.lt
  clear hp h hr
  have q0 : (d.what == 0) = false := by rw [beq_eq_false_iff_ne]; omega
  have q1 : (d.what == 1) = false := by rw [beq_eq_false_iff_ne]; omega
  have q2 : (d.what == 2) = false := by rw [beq_eq_false_iff_ne]; omega
  have q3 : (d.what == 3) = false := by rw [beq_eq_false_iff_ne]; omega
  have q4 : (d.what == 4) = false := by rw [beq_eq_false_iff_ne]; omega
  have q5 : (d.what == 5) = true := by rw [beq_iff_eq]; omega
  clear hw
  obtain ⟨y, z, no, ha⟩ := asked_is l d.n
  have ha' := Lib.hid ha
  clear ha
  go_enter Tryd.func11, Tryd.ntmps11
  go_wp2_with fail
  obtain ⟨hbx, hB⟩ := boxes_new w A l.length c room d
  generalize (((w.alloc (.cells #[.slice A l.length c, .int .i64 (room : Int)] 32)).alloc (.cells #[.int .i64 d.what, .int .i64 d.n, .slice d.a.A d.a.l.length d.a.c, .slice d.b.A d.b.l.length d.b.c] 36)).alloc (.cells #[.slice none 0 0, .int .i64 0] 32)) = w1 at hbx hB ⊢
  refine (refTake_uni ha'.out A c (OffX X w g r) room w1 (hp'.out.kept (Kept.below hB (fun k hk => hk.1))) (fun k hk => Nat.lt_of_lt_of_le hk.1 hB.size)).mono ?_
  rintro e w2 ⟨PB, pb, XD, xd, rfl, hF, hX, hB2⟩
  have hbx2 := Lib.hid (hbx.below hB2)
  have hB3 := Lib.hid (hB.trans (hB2.mono hB.size))
  have hF' := Lib.hid hF
  have hX' := Lib.hid hX
  have c11 : w2.cell? ⟨w.heap.size + 1, 1, none⟩ = some (.int .i64 d.n) := hbx2.out.b1.cell 1
  have hlt : w.heap.size + 1 < w2.heap.size := by have := hbx2.out.size; omega
  clear hbx hB hB2 hF hX
  go_wp2_with fail
  have kb := Has.new w2 32 #[.slice PB y.length pb, .int .i64 (room : Int)]
  have hba := (Below.refl w2.heap.size w2).alloc (Nat.le_refl _) (.cells #[.slice PB y.length pb, .int .i64 (room : Int)] 32)
  generalize w2.alloc (.cells #[.slice PB y.length pb, .int .i64 (room : Int)] 32) = w3 at kb hba ⊢
  have hbx3 := Lib.hid (hbx2.out.below hba)
  have hB4 := Lib.hid (hB3.out.trans (hba.mono hB3.out.size))
  have hS2 : ∀ k, OffX X w g r k → k < w2.heap.size := fun k hk => Nat.lt_of_lt_of_le hk.1 hB3.out.size
  have hF3 := Lib.hid (hF'.out.kept (Kept.below hba hS2))
  have hX3 := Lib.hid (hX'.out.kept (Kept.below hba hS2))
  have hz2 := Lib.hid hbx2.out.size
  clear hbx2 hB3 hF' hX' hS2 hlt c11 hba
  refine (drop_uni ha'.out g r room w3 (h'.out.below hB4.out)).mono ?_
  rintro e w4 ⟨rfl, hQ4, hT4⟩
  have hg1 := hg'.out
  have hr1 := hr'.out
  have hz3 := hz2.out
  have hneg : w2.heap.size ≠ g ∧ w2.heap.size ≠ r := by constructor <;> omega
  have kb4 : Has w4.drew w2.heap.size _ _ := (hT4.block _ kb.lt hneg.1 hneg.2).trans kb
  have hbx4 := Lib.hid (hbx3.out.turn hT4 hg1 hr1)
  have hT5 := Lib.hid ((turn_of_below hB4.out).trans hT4 (.inl rfl))
  have hO : ∀ k, OffX X w g r k → k < w3.heap.size ∧ k ≠ g ∧ k ≠ r := fun k hk => ⟨Nat.lt_of_lt_of_le hk.1 hB4.out.size, hk.2.1, hk.2.2.1⟩
  have hF4 := Lib.hid (hF3.out.kept (hT4.kept hO))
  have hX4 := Lib.hid (hX3.out.kept (hT4.kept hO))
  have hQ4' := Lib.hid hQ4
  have e0 : w4.drew.cell? ⟨w2.heap.size, 0, none⟩ = some (.slice PB y.length pb) := kb4.cell 0
  have e1 : w4.drew.cell? ⟨w2.heap.size, 1, none⟩ = some (.int .i64 (room : Int)) := kb4.cell 1
  have d0 : w4.cell? ⟨w.heap.size + 1 + 1, 0, none⟩ = some (.slice none 0 0) := hbx4.out.b2.cell 0
  have d1 : w4.cell? ⟨w.heap.size + 1 + 1, 1, none⟩ = some (.int .i64 0) := hbx4.out.b2.cell 1
  have f0 : w4.frozen? ⟨w.heap.size + 1 + 1, 0, none⟩ = false := hbx4.out.b2.free 0
  have f1 : w4.frozen? ⟨w.heap.size + 1 + 1, 1, none⟩ = false := hbx4.out.b2.free 1
  have hne : w2.heap.size ≠ w.heap.size + 1 + 1 := by omega
  clear hF3 hX3 hbx3 hQ4 hO kb kb4 hT4
  go_wp2
  go_region_held3 (fun w' => w'.cell? ⟨w2.heap.size, 0, none⟩ = some (.slice PB y.length pb) ∧ w'.cell? ⟨w2.heap.size, 1, none⟩ = some (.int .i64 (room : Int)))
    (first | exact ⟨e0, e1⟩ | exact ⟨(World.cell?_of_block (a := ⟨w2.heap.size, 0, none⟩) (((only_setCell (w.heap.size + 1 + 1) 0 _ _).trans (only_setCell (w.heap.size + 1 + 1) 1 _ _)).block w2.heap.size hne)).trans e0, (World.cell?_of_block (a := ⟨w2.heap.size, 1, none⟩) (((only_setCell (w.heap.size + 1 + 1) 0 _ _).trans (only_setCell (w.heap.size + 1 + 1) 1 _ _)).block w2.heap.size hne)).trans e1⟩)
    (first | (go_at_call 10; refine (num_any _ _).mono ?_; rintro e w' ⟨rfl, rfl⟩) | fail)
  all_goals
    go_wp2
    obtain ⟨x0, x1⟩ := hbx4.out.stored (.slice PB y.length pb) (.int .i64 (room : Int))
    refine bodyPost_ret (v := .tuple #[.pointer (some ⟨g, 0, none⟩), .agg #[.slice PB y.length pb, .int .i64 (room : Int)], .bool true]) (by simp [results, Tryd.results11, go_sem, x0, x1]) rfl ?_
    have hsz := hT5.out.size
    refine Acted.drew (acted_of (p' := ⟨PB, y, pb⟩) hbx4.out hT5.out _ _ hQ4'.out (by omega) rfl (hF4.out.mono ?_) (.inl ⟨rfl, .inl rfl⟩) (by omega) (by omega) rfl)
    intro k hk
    have hk1 := hk.1
    exact ⟨⟨by omega, hk.2⟩, by omega⟩
end Go.Proofs.YtfblkfjjpnnhhaaDoor
