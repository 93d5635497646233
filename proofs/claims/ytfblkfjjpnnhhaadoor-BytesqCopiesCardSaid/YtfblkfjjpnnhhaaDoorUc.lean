import Derived.Test.YtfblkfjjpnnhhaaDoorK
import Derived.Test.YtfblkfjjpnnhhaaDoorUa
namespace Go.Proofs.YtfblkfjjpnnhhaaDoor
open Go.RowKit

/-! ## A call by both -/
/-- What is neither the queue's head nor its row. -/
def Off (W : World) (g r k : Nat) : Prop := k < W.heap.size ∧ k ≠ g ∧ k ≠ r
/-- The same, and not what X says. -/
def OffX (X : Nat → Prop) (W : World) (g r k : Nat) : Prop := k < W.heap.size ∧ k ≠ g ∧ k ≠ r ∧ ¬ X k
theorem Off.turn {W W' : World} {g r g' r' k : Nat} (h : Off W g r k) (hT : Turn g r W W') (hgr : (g' = g ∧ (r' = r ∨ W.heap.size ≤ r')) ∨ (W.heap.size ≤ g' ∧ W.heap.size ≤ r')) : Off W' g' r' k := by
  obtain ⟨h1, h2, h3⟩ := h
  have := hT.size
  exact ⟨by omega, by omega, by omega⟩
theorem off_kept {W W' : World} {g r : Nat} (hT : Turn g r W W') : Kept (Off W g r) W W' := hT.kept (fun _ h => h)
/-- What a call by both leaves. -/
def Acted (X : Nat → Prop) (g r room : Nat) (W : World) (e : Ending) (W' : World) : Prop :=
  ∃ g' r' l' p', e = .returned (.tuple #[.pointer (some ⟨g', 0, none⟩), refVal p' room, .bool true]) ∧ Qu W' g' r' room l' ∧ r' < W'.heap.size ∧ p'.l = l' ∧ Fine W' (OffX X W' g' r') p' ∧ Turn g r W W' ∧
    ((g' = g ∧ (r' = r ∨ W.heap.size ≤ r')) ∨ (W.heap.size ≤ g' ∧ W.heap.size ≤ r'))
/-- The same, of one queue alone. -/
def Acted0 (g r room : Nat) (W : World) (e : Ending) (W' : World) : Prop :=
  ∃ g' r' l' p', e = .returned (.tuple #[.pointer (some ⟨g', 0, none⟩), refVal p' room, .bool true]) ∧ Qu W' g' r' room l' ∧ r' < W'.heap.size ∧ p'.l = l' ∧ Fine W' (Off W' g' r') p' ∧ Turn g r W W' ∧
    ((g' = g ∧ (r' = r ∨ W.heap.size ≤ r')) ∨ (W.heap.size ≤ g' ∧ W.heap.size ≤ r'))
theorem Acted.zero {X : Nat → Prop} {g r room : Nat} {W W' : World} {e : Ending} (h : Acted X g r room W e W') : Acted0 g r room W e W' := by
  obtain ⟨g', r', l', p', he, hQ, hl, hp, hF, hT, hgr⟩ := h
  exact ⟨g', r', l', p', he, hQ, hl, hp, hF.mono (fun _ hk => ⟨hk.1, hk.2.1, hk.2.2.1⟩), hT, hgr⟩
/-- The three boxes that a call by both begins with. -/
structure Boxes (w : World) (A : Option Addr) (n c room : Nat) (d : Deed) (W : World) : Prop where
  b0 : Has W w.heap.size 32 #[.slice A n c, .int .i64 (room : Int)]
  b1 : Has W (w.heap.size + 1) 36 #[.int .i64 d.what, .int .i64 d.n, .slice d.a.A d.a.l.length d.a.c, .slice d.b.A d.b.l.length d.b.c]
  b2 : Has W (w.heap.size + 1 + 1) 32 #[.slice none 0 0, .int .i64 0]
  size : w.heap.size + 3 ≤ W.heap.size
theorem Boxes.below {w W W' : World} {A : Option Addr} {n c room : Nat} {d : Deed} (h : Boxes w A n c room d W) (hb : Below W.heap.size W W') : Boxes w A n c room d W' :=
  ⟨h.b0.below hb h.b0.lt, h.b1.below hb h.b1.lt, h.b2.below hb h.b2.lt, Nat.le_trans h.size hb.size⟩
theorem Boxes.turn {w W W' : World} {g r : Nat} {A : Option Addr} {n c room : Nat} {d : Deed} (h : Boxes w A n c room d W) (hT : Turn g r W W') (hg : g < w.heap.size) (hr : r < w.heap.size) : Boxes w A n c room d W' :=
  ⟨(hT.block _ h.b0.lt (by omega) (by omega)).trans h.b0, (hT.block _ h.b1.lt (by omega) (by omega)).trans h.b1, (hT.block _ h.b2.lt (by omega) (by omega)).trans h.b2, Nat.le_trans h.size hT.size⟩
theorem boxes_new (w : World) (A : Option Addr) (n c room : Nat) (d : Deed) :
    Boxes w A n c room d (((w.alloc (.cells #[.slice A n c, .int .i64 (room : Int)] 32)).alloc (.cells #[.int .i64 d.what, .int .i64 d.n, .slice d.a.A d.a.l.length d.a.c, .slice d.b.A d.b.l.length d.b.c] 36)).alloc (.cells #[.slice none 0 0, .int .i64 0] 32)) ∧
    Below w.heap.size w (((w.alloc (.cells #[.slice A n c, .int .i64 (room : Int)] 32)).alloc (.cells #[.int .i64 d.what, .int .i64 d.n, .slice d.a.A d.a.l.length d.a.c, .slice d.b.A d.b.l.length d.b.c] 36)).alloc (.cells #[.slice none 0 0, .int .i64 0] 32)) := by
  refine ⟨⟨((Has.new w _ _).alloc _).alloc _, ?_, ?_, by simp⟩, (((Below.refl w.heap.size w).alloc (Nat.le_refl _) _).alloc (by simp) _).alloc (by simp; omega) _⟩
  · have := (Has.new (w.alloc (.cells #[.slice A n c, .int .i64 (room : Int)] 32)) 36 #[.int .i64 d.what, .int .i64 d.n, .slice d.a.A d.a.l.length d.a.c, .slice d.b.A d.b.l.length d.b.c]).alloc (.cells #[.slice none 0 0, .int .i64 0] 32)
    simpa only [World.size_alloc] using this
  · have := Has.new ((w.alloc (.cells #[.slice A n c, .int .i64 (room : Int)] 32)).alloc (.cells #[.int .i64 d.what, .int .i64 d.n, .slice d.a.A d.a.l.length d.a.c, .slice d.b.A d.b.l.length d.b.c] 36)) 32 #[.slice none 0 0, .int .i64 0]
    simpa only [World.size_alloc] using this

theorem Boxes.stored {w W : World} {A : Option Addr} {n c room : Nat} {d : Deed} (h : Boxes w A n c room d W) (u v : Value) :
    (W.setCell ⟨w.heap.size + 1 + 1, 0, none⟩ u).cell? ⟨w.heap.size + 1 + 1, 0, none⟩ = some u ∧ ((W.setCell ⟨w.heap.size + 1 + 1, 0, none⟩ u).setCell ⟨w.heap.size + 1 + 1, 1, none⟩ v).cell? ⟨w.heap.size + 1 + 1, 1, none⟩ = some v :=
  ⟨(h.b2.put 0 u).cell 0, ((h.b2.put 0 u).put 1 v).cell 1⟩
theorem acted_of {X : Nat → Prop} {w W : World} {A : Option Addr} {n c room : Nat} {d : Deed} {g r : Nat} (_h : Boxes w A n c room d W) (hT : Turn g r w W) {g' r' : Nat} {l' : List UInt8} {p' : Part} (u v : Value) (hQ : Qu W g' r' room l') (hlt : r' < W.heap.size) (hl : p'.l = l')
    (hf : Fine W (fun k => OffX X W g' r' k ∧ k ≠ w.heap.size + 1 + 1) p') (hgr : (g' = g ∧ (r' = r ∨ w.heap.size ≤ r')) ∨ (w.heap.size ≤ g' ∧ w.heap.size ≤ r')) (hg : g' ≠ w.heap.size + 1 + 1) (hr : r' ≠ w.heap.size + 1 + 1) {e : Ending}
    (he : e = .returned (.tuple #[.pointer (some ⟨g', 0, none⟩), refVal p' room, .bool true])) :
    Acted X g r room w e ((W.setCell ⟨w.heap.size + 1 + 1, 0, none⟩ u).setCell ⟨w.heap.size + 1 + 1, 1, none⟩ v) := by
  have ho := (only_setCell (w.heap.size + 1 + 1) 0 W u).trans (only_setCell (w.heap.size + 1 + 1) 1 _ v)
  refine ⟨g', r', l', p', he, hQ.kept (ho.block g' hg) (ho.block r' hr), by rw [ho.size]; exact hlt, hl, (hf.kept (fun k hk => ho.block k hk.2)).mono (fun k hk => by have := hk.1; unfold OffX at this ⊢; rw [ho.size]; exact this), ?_, hgr⟩
  exact ⟨ho.os.trans hT.os, ho.tape.trans hT.tape, ho.output.trans hT.output, by rw [ho.size]; exact hT.size, fun k hk h1 h2 => (ho.block k (by omega)).trans (hT.block k hk h1 h2)⟩

set_option maxRecDepth 100000 in
set_option maxHeartbeats 2000000 in
theorem act_copy (X : Nat → Prop) (d : Deed) (g r room : Nat) (l : List UInt8) (A : Option Addr) (c : Nat) (w : World) (h : Qu w g r room l) (hp : Fine w (OffX X w g r) ⟨A, l, c⟩) (hw : d.what < 0 ∨ 5 < d.what) :
    Calls Tryd.prog 11 #[.pointer (some ⟨g, 0, none⟩), refVal ⟨A, l, c⟩ room, .agg #[.int .i64 d.what, .int .i64 d.n, d.a.val, d.b.val]] w (Acted X g r room w) := by
  unfold refVal Part.val
  simp only
  have hp' := Lib.hid hp
  have h' := Lib.hid h
  clear hp h
  generalize hn : l.length = n
  have hn' := Lib.hid hn
  clear hn
  have q0 : (d.what == 0) = false := by rw [beq_eq_false_iff_ne]; omega
  have q1 : (d.what == 1) = false := by rw [beq_eq_false_iff_ne]; omega
  have q2 : (d.what == 2) = false := by rw [beq_eq_false_iff_ne]; omega
  have q3 : (d.what == 3) = false := by rw [beq_eq_false_iff_ne]; omega
  have q4 : (d.what == 4) = false := by rw [beq_eq_false_iff_ne]; omega
  have q5 : (d.what == 5) = false := by rw [beq_eq_false_iff_ne]; omega
  clear hw
  go_enter Tryd.func11, Tryd.ntmps11
  go_wp2
  obtain ⟨hbx, hB⟩ := boxes_new w A n c room d
  generalize (((w.alloc (.cells #[.slice A n c, .int .i64 (room : Int)] 32)).alloc (.cells #[.int .i64 d.what, .int .i64 d.n, .slice d.a.A d.a.l.length d.a.c, .slice d.b.A d.b.l.length d.b.c] 36)).alloc (.cells #[.slice none 0 0, .int .i64 0] 32)) = w1 at hbx hB ⊢
  have e0 : w1.drew.cell? ⟨w.heap.size, 0, none⟩ = some (.slice A n c) := hbx.b0.cell 0
  have e1 : w1.drew.cell? ⟨w.heap.size, 1, none⟩ = some (.int .i64 (room : Int)) := hbx.b0.cell 1
  have hQ := Lib.hid ((h'.out.below hB).kept (W' := w1.drew) rfl rfl)
  have hB' : Hid (Below w.heap.size w w1.drew) := hB.drew
  have hbx' : Hid (Boxes w A n c room d w1.drew) := ⟨hbx.b0, hbx.b1, hbx.b2, hbx.size⟩
  clear hbx hB
  go_region_held3 (fun w' => w'.cell? ⟨w.heap.size, 0, none⟩ = some (.slice A n c) ∧ w'.cell? ⟨w.heap.size, 1, none⟩ = some (.int .i64 (room : Int)))
    (first | exact ⟨e0, e1⟩ | exact hS3 | exact ⟨(World.cell?_of_block (a := ⟨w.heap.size, 0, none⟩) (((only_setCell (w.heap.size + 1 + 1) 0 _ _).trans (only_setCell (w.heap.size + 1 + 1) 1 _ _)).block w.heap.size (by show w.heap.size ≠ _; omega))).trans hS3.1, (World.cell?_of_block (a := ⟨w.heap.size, 1, none⟩) (((only_setCell (w.heap.size + 1 + 1) 0 _ _).trans (only_setCell (w.heap.size + 1 + 1) 1 _ _)).block w.heap.size (by show w.heap.size ≠ _; omega))).trans hS3.2⟩)
    (first | (go_at_call 13; refine (copy_any g r room l w1.drew hQ.out).mono ?_; rintro e w3 ⟨k, r2, rfl, hQ3, hk, hr2, hrl, hB3⟩
              have hbx3 := Lib.hid (hbx'.out.below hB3)
              have hB4 := Lib.hid (hB'.out.trans (hB3.mono hB'.out.size))
              have hQ3' := Lib.hid hQ3
              have hkr : Hid (w1.drew.heap.size ≤ k ∧ w1.drew.heap.size ≤ r2 ∧ r2 < w3.heap.size) := ⟨hk, hr2, hrl⟩
              have hS3 : w3.cell? ⟨w.heap.size, 0, none⟩ = some (.slice A n c) ∧ w3.cell? ⟨w.heap.size, 1, none⟩ = some (.int .i64 (room : Int)) := ⟨hbx3.out.b0.cell 0, hbx3.out.b0.cell 1⟩
              have d0 : w3.cell? ⟨w.heap.size + 1 + 1, 0, none⟩ = some (.slice none 0 0) := hbx3.out.b2.cell 0
              have d1 : w3.cell? ⟨w.heap.size + 1 + 1, 1, none⟩ = some (.int .i64 0) := hbx3.out.b2.cell 1
              have f0 : w3.frozen? ⟨w.heap.size + 1 + 1, 0, none⟩ = false := hbx3.out.b2.free 0
              have f1 : w3.frozen? ⟨w.heap.size + 1 + 1, 1, none⟩ = false := hbx3.out.b2.free 1
              clear hQ3 hk hr2 hrl hB3) | fail)
  go_wp2
  obtain ⟨x0, x1⟩ := hbx3.out.stored (.slice A n c) (.int .i64 (room : Int))
  refine bodyPost_ret (v := .tuple #[.pointer (some ⟨k, 0, none⟩), .agg #[.slice A n c, .int .i64 (room : Int)], .bool true]) (by simp [results, Tryd.results11, go_sem, x0, x1]) rfl ?_
  have hz1 := hbx'.out.size
  have hkr1 := hkr.out
  refine acted_of (p' := ⟨A, l, c⟩) hbx3.out (turn_of_below hB4.out) _ _ hQ3'.out hkr1.2.2 rfl ?_ (.inr (by omega)) (by omega) (by omega) (by rw [refVal, hn'.out])
  refine (hp'.out.kept (Kept.below hB4.out (fun k hk => hk.1))).mono ?_
  intro k2 hk2
  have := hk2.1
  have := hB4.out.size
  exact ⟨⟨by omega, by omega, by omega, hk2.2.2.2⟩, by omega⟩
end Go.Proofs.YtfblkfjjpnnhhaaDoor
