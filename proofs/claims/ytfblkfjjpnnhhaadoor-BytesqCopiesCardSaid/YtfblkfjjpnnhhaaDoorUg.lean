import Derived.Test.YtfblkfjjpnnhhaaDoorUf
namespace Go.Proofs.YtfblkfjjpnnhhaaDoor
open Go.RowKit

theorem byte_up (b : UInt8) : IntKind.u8.wrap ((b.toNat : Int) + 1) = ((b + 1).toNat : Int) := by
  rw [IntKind.wrap_u8, UInt8.toNat_add]
  have := b.toNat_lt
  simp
theorem byts_set (l : List UInt8) (k : Nat) (b : UInt8) : (byts l).toArray.setIfInBounds k (.int .u8 (b.toNat : Int)) = (byts (l.set k b)).toArray := by
  simp [byts, List.map_set, byt]
/-- A byte of a row goes up by one. -/
theorem Row.up {W : World} {b : Nat} {t : TypeId} {A : Option Addr} {z : List UInt8} (h : Row W b t A z) (k : Nat) (x : UInt8) (h0 : 0 < z.length) : Row (W.setCell ⟨b, k, none⟩ (.int .u8 (x.toNat : Int))) b t A (z.set k x) := fun _ => by
  refine ⟨(h h0).1, ?_⟩
  rw [← byts_set]
  exact (h h0).2.put k _
theorem asked_small {l y z : List UInt8} {n no : Int} (h : Asked l n y z no) : z.length ≤ l.length := by
  rcases h with ⟨_, _, rfl, _⟩ | ⟨_, _, rfl, _⟩
  · simp
  · rw [List.length_take]; omega
set_option maxRecDepth 100000 in
set_option maxHeartbeats 2000000 in
theorem act_peek (X : Nat → Prop) (d : Deed) (g r room : Nat) (l : List UInt8) (A : Option Addr) (c : Nat) (w : World) (h : Qu w g r room l) (hr : r < w.heap.size) (hp : Fine w (OffX X w g r) ⟨A, l, c⟩) (hw : d.what = 4) :
    Calls Tryd.prog 11 #[.pointer (some ⟨g, 0, none⟩), refVal ⟨A, l, c⟩ room, .agg #[.int .i64 d.what, .int .i64 d.n, d.a.val, d.b.val]] w (Acted X g r room w) := by
  unfold refVal Part.val
  simp only
  have hp' := Lib.hid hp
  have h' := Lib.hid h
  have hr' := Lib.hid hr
  have hg' := Lib.hid h.lt
  clear hp h hr
  have q0 : (d.what == 0) = false := by rw [beq_eq_false_iff_ne]; omega
  have q1 : (d.what == 1) = false := by rw [beq_eq_false_iff_ne]; omega
  have q2 : (d.what == 2) = false := by rw [beq_eq_false_iff_ne]; omega
  have q3 : (d.what == 3) = false := by rw [beq_eq_false_iff_ne]; omega
  have q4 : (d.what == 4) = true := by rw [beq_iff_eq]; omega
  clear hw
  obtain ⟨y, z, no, ha⟩ := asked_is l d.n
  have ha' := Lib.hid ha
  clear ha
  go_enter Tryd.func11, Tryd.ntmps11
  go_wp2_with fail
  obtain ⟨hbx, hB⟩ := boxes_new w A l.length c room d
  generalize (((w.alloc (.cells #[.slice A l.length c, .int .i64 (room : Int)] 32)).alloc (.cells #[.int .i64 d.what, .int .i64 d.n, .slice d.a.A d.a.l.length d.a.c, .slice d.b.A d.b.l.length d.b.c] 36)).alloc (.cells #[.slice none 0 0, .int .i64 0] 32)) = w1 at hbx hB ⊢
  refine (refTake_uni ha'.out A c (OffX X w g r) room w1 (hp'.out.kept (Kept.below hB (fun k hk => hk.1))) (fun k hk => Nat.lt_of_lt_of_le hk.1 hB.size)).mono ?_
  rintro e w2 ⟨PB, pb, XD, xd, rfl, hF, hX, hB2⟩
  have hbx2 := Lib.hid (hbx.below hB2)
  have hB3 := Lib.hid (hB.trans (hB2.mono hB.size))
  have hF' := Lib.hid hF
  have hX' := Lib.hid hX
  have c11 : w2.cell? ⟨w.heap.size + 1, 1, none⟩ = some (.int .i64 d.n) := hbx2.out.b1.cell 1
  have hlt : w.heap.size + 1 < w2.heap.size := by have := hbx2.out.size; omega
  clear hbx hB hB2 hF hX
  go_wp2_with fail
  have kb := Has.new w2 32 #[.slice PB y.length pb, .int .i64 (room : Int)]
  have hba := (Below.refl w2.heap.size w2).alloc (Nat.le_refl _) (.cells #[.slice PB y.length pb, .int .i64 (room : Int)] 32)
  generalize w2.alloc (.cells #[.slice PB y.length pb, .int .i64 (room : Int)] 32) = w3 at kb hba ⊢
  have hbx3 := Lib.hid (hbx2.out.below hba)
  have hB4 := Lib.hid (hB3.out.trans (hba.mono hB3.out.size))
  have hS2 : ∀ k, OffX X w g r k → k < w2.heap.size := fun k hk => Nat.lt_of_lt_of_le hk.1 hB3.out.size
  have hF3 := Lib.hid (hF'.out.kept (Kept.below hba hS2))
  have hX3 := Lib.hid (hX'.out.kept (Kept.below hba hS2))
  have hz2 := Lib.hid hbx2.out.size
  clear hbx2 hB3 hF' hX' hS2 hlt c11 hba
  refine (peek_uni ha'.out g r room w3 (h'.out.below hB4.out)).mono ?_
  rintro e w4 ⟨RB, rb, rfl, hrow, hrb, hB5⟩
  have hg1 := hg'.out
  have hr1 := hr'.out
  have hz3 := hz2.out
  have hz4 := kb.lt
  have hbx4 := Lib.hid (hbx3.out.below hB5)
  have hB6 := Lib.hid (hB4.out.trans (hB5.mono hB4.out.size))
  have hX4 := Lib.hid (hX3.out.kept (Kept.below hB5 (fun k hk => Nat.lt_of_lt_of_le hk.1 hB4.out.size)))
  have hQ4 := Lib.hid ((h'.out.below hB4.out).below hB5)
  have tc : (convert 30 9 (.slice RB z.length z.length)).run Tryd.prog w4 = .ok (.string ⟨z.toArray⟩) w4 := hrow.rd.text 30 9 5 z.length Tryd.underlying30 Tryd.underlying5 Tryd.underlying9
  have tb : (convert 30 9 (.slice XD z.length xd)).run Tryd.prog w4 = .ok (.string ⟨z.toArray⟩) w4 := hX4.out.1.text 30 9 5 xd Tryd.underlying30 Tryd.underlying5 Tryd.underlying9
  have hrow' := Lib.hid hrow
  have hrb' := Lib.hid hrb
  have hzl : Hid (z.length ≤ 1048576) := by have := asked_small ha'.out; have := hQ4.out.small; show _ ≤ _; omega
  clear hF3 hX3 hbx3 kb hrow hrb hB5
  go_wp2_with (first | (go_at_call 10; refine (num_any _ _).mono ?_; rintro e w' ⟨rfl, rfl⟩) | fail)
  go_loopw [26] (fun i wr => ∃ (k : Nat) (x : List UInt8), k ≤ z.length ∧ i = .int .i64 k ∧ x.length = z.length ∧ Row wr rb 5 RB x ∧ Only rb w4 wr) (fun i _ => z.length - (intOf i).toNat)
  case atStart => exact ⟨0, z, Nat.zero_le _, rfl, rfl, hrow'.out, Only.refl _ _⟩
  case round =>
    obtain ⟨k, x, hk, rfl, hxl, hrx, hox⟩ := hrel
    have hrx' := Lib.hid hrx
    have hox' := Lib.hid hox
    clear hrx hox
    by_cases hlt : k < z.length
    · obtain ⟨rfl, hh⟩ := hrx'.out (by omega)
      have hkx : k < x.length := by omega
      have hby : wr.cell? ⟨rb, k, none⟩ = some (.int .u8 ((x[k]'hkx).toNat : Int)) := by rw [hh.cell, List.getElem?_toArray, byts_at hkx]; rfl
      have hfr : wr.frozen? ⟨rb, k, none⟩ = false := hh.free k
      have hup := byte_up (x[k]'hkx)
      have hrow2 := Lib.hid (hrx'.out.up k ((x[k]'hkx) + 1) (by omega))
      have hlti : (k : Int) < (z.length : Int) := by omega
      have hz20 := hzl.out
      clear hh
      go_wp2
      go_roundw
      case rel => exact ⟨k + 1, x.set k ((x[k]'hkx) + 1), by omega, by go_num, by simp [hxl], hrow2.out, hox'.out.trans (only_setCell _ _ _ _)⟩
      case measure => simp [intOf]; omega
    · obtain rfl : k = z.length := by omega
      have hne : w.heap.size ≠ rb := by have := hrb'.out; omega
      have hne2 : w.heap.size + 1 + 1 ≠ rb := by have := hrb'.out; omega
      have k0 : Has wr.drew w.heap.size _ _ := (hox'.out.block _ hne).trans hbx4.out.b0
      have k2 : Has wr (w.heap.size + 1 + 1) _ _ := (hox'.out.block _ hne2).trans hbx4.out.b2
      have e0 : wr.drew.cell? ⟨w.heap.size, 0, none⟩ = some (.slice A l.length c) := k0.cell 0
      have e1 : wr.drew.cell? ⟨w.heap.size, 1, none⟩ = some (.int .i64 (room : Int)) := k0.cell 1
      have d0 : wr.cell? ⟨w.heap.size + 1 + 1, 0, none⟩ = some (.slice none 0 0) := k2.cell 0
      have d1 : wr.cell? ⟨w.heap.size + 1 + 1, 1, none⟩ = some (.int .i64 0) := k2.cell 1
      have f0 : wr.frozen? ⟨w.heap.size + 1 + 1, 0, none⟩ = false := k2.free 0
      have f1 : wr.frozen? ⟨w.heap.size + 1 + 1, 1, none⟩ = false := k2.free 1
      have hne3 : w.heap.size ≠ w.heap.size + 1 + 1 := by omega
      have hbx5 : Hid (Boxes w A l.length c room d wr) := ⟨k0, (hox'.out.block _ (by have := hrb'.out; omega)).trans hbx4.out.b1, k2, by have := hbx4.out.size; have := hox'.out.size; omega⟩
      have hB7 : Hid (Below w.heap.size w wr) := hB6.out.trans (hox'.out.below (by have := hrb'.out; omega))
      have hQ5 : Hid (∃ r2, Qu wr g r2 room l ∧ r2 = r) := ⟨r, hQ4.out.kept (hox'.out.block g (by have := hrb'.out; omega)) (hox'.out.block r (by have := hrb'.out; omega)), rfl⟩
      clear k0 k2
      go_wp2
      go_region_held3 (fun w' => w'.cell? ⟨w.heap.size, 0, none⟩ = some (.slice A l.length c) ∧ w'.cell? ⟨w.heap.size, 1, none⟩ = some (.int .i64 (room : Int)))
        (first | exact ⟨e0, e1⟩ | exact ⟨(World.cell?_of_block (a := ⟨w.heap.size, 0, none⟩) (((only_setCell (w.heap.size + 1 + 1) 0 _ _).trans (only_setCell (w.heap.size + 1 + 1) 1 _ _)).block w.heap.size hne3)).trans e0, (World.cell?_of_block (a := ⟨w.heap.size, 1, none⟩) (((only_setCell (w.heap.size + 1 + 1) 0 _ _).trans (only_setCell (w.heap.size + 1 + 1) 1 _ _)).block w.heap.size hne3)).trans e1⟩)
        (fail)
      go_wp2
      obtain ⟨x0, x1⟩ := hbx5.out.stored (.slice A l.length c) (.int .i64 (room : Int))
      refine bodyPost_ret (v := .tuple #[.pointer (some ⟨g, 0, none⟩), .agg #[.slice A l.length c, .int .i64 (room : Int)], .bool true]) (by simp [results, Tryd.results11, go_sem, x0, x1]) rfl ?_
      have hsz := hB7.out.size
      obtain ⟨r2, hQ6, hr2⟩ := hQ5.out
      subst hr2
      refine Acted.drew (acted_of (p' := ⟨A, l, c⟩) hbx5.out (turn_of_below hB7.out) _ _ hQ6 (by omega) rfl ((hp'.out.kept (Kept.below hB7.out (fun k hk => hk.1))).mono ?_) (.inl ⟨rfl, .inl rfl⟩) (by omega) (by omega) rfl)
      intro k hk
      have hk1 := hk.1
      exact ⟨⟨by omega, hk.2⟩, by omega⟩
end Go.Proofs.YtfblkfjjpnnhhaaDoor
