import Derived.Test.YtfblkfjjpnnhhaaDoorUz
import Derived.Test.YtfblkfjjpnnhhaaDoorUb
import Derived.Test.YtfblkfjjpnnhhaaDoorVe
import Derived.Test.YtfblkfjjpnnhhaaDoorVb
import Derived.Test.YtfblkfjjpnnhhaaDoorVc
import Derived.Deep.CutRange
namespace Go.Proofs.YtfblkfjjpnnhhaaDoor
open Go.RowKit

theorem act_pl0 {w wr W : World} {wb room g r : Nat} {l : List UInt8} {PA : Option Addr} {pc : Nat} {d : Deed} (h : Pl w wb room g r l PA pc wr) (hb : Below wr.heap.size wr W) (hd : DeedOk w (· < w.heap.size) d) (hsum : d.a.l.length + d.b.l.length ≤ 300) :
    Calls Tryd.prog 11 #[.pointer (some ⟨g, 0, none⟩), .agg #[.slice PA l.length pc, .int .i64 (room : Int)], .agg #[.int .i64 d.what, .int .i64 d.n, .slice d.a.A d.a.l.length d.a.c, .slice d.b.A d.b.l.length d.b.c]] W (Acted0 g r room W) := by
  have h2 := h.below hb
  have hS : ∀ k, k < w.heap.size → Off W g r k := fun k hk => by
    have := h2.ch.b.size; have := h2.ch.gge; have := h2.ch.rge
    exact ⟨by omega, by omega, by omega⟩
  have hk : Kept (· < w.heap.size) w W := fun k hk => h2.ch.b.block k hk
  have := (act_any (fun _ => False) d g r room l PA pc W h2.ch.q h2.ch.lt (h2.fine.mono (fun _ hk => ⟨hk.1.1, hk.1.2.1, hk.1.2.2, fun h => h⟩)) (fun _ h => h.elim) ⟨⟨(hd.1.1.kept hk).mono hS, hd.1.2⟩, ⟨(hd.2.1.1.kept hk).mono hS, hd.2.1.2⟩, hd.2.2⟩ hsum).mono (fun _ _ h => h.zero)
  simpa only [refVal, Part.val] using this
theorem Pl.acted {w W W' : World} {wb room g r g' r' : Nat} {l : List UInt8} {PA : Option Addr} {pc : Nat} {p' : Part} {l' : List UInt8} (h : Pl w wb room g r l PA pc W) (hQ : Qu W' g' r' room l') (hlt : r' < W'.heap.size) (hl : p'.l = l') (hF : Fine W' (Off W' g' r') p') (hT : Turn g r W W')
    (hgr : (g' = g ∧ (r' = r ∨ W.heap.size ≤ r')) ∨ (W.heap.size ≤ g' ∧ W.heap.size ≤ r')) :
    Pl w wb room g' r' l' p'.A p'.c ((W'.setCell ⟨wb, 0, none⟩ (.slice p'.A l'.length p'.c)).setCell ⟨wb, 1, none⟩ (.int .i64 (room : Int))) := by
  have hb1 := h.ch.b.size
  have hwb := h.box.lt
  have hwb' : Has W' wb _ _ := (hT.block wb hwb h.neg h.ner).trans h.box
  have hgg := h.ch.gge
  have hrg := h.ch.rge
  have hneg := h.neg
  have hner := h.ner
  have hpm : Pm w wb wb room g' r' l' p'.A p'.c (.slice PA l.length pc) W' → True := fun _ => trivial
  clear hpm
  have ho := (only_setCell wb 0 W' (.slice p'.A l'.length p'.c)).trans (only_setCell wb 1 _ (.int .i64 (room : Int)))
  have hng : wb ≠ g' := by omega
  have hnr : wb ≠ r' := by omega
  refine ⟨⟨hQ.kept (ho.block g' hng.symm) (ho.block r' hnr.symm), by rw [ho.size]; exact hlt, by omega, by omega, (h.ch.b.trans (hT.below hgg hrg hb1)).trans (ho.below h.ge)⟩, ?_, (hwb'.put 0 _).put 1 _, h.ge, hng, hnr⟩
  have hF2 := (hF.off_box hwb').kept (W' := ((W'.setCell ⟨wb, 0, none⟩ (.slice p'.A l'.length p'.c)).setCell ⟨wb, 1, none⟩ (.int .i64 (room : Int)))) (fun k hk => ho.block k hk.2)
  subst hl
  exact hF2.mono (fun k hk => by unfold Off at hk ⊢; rw [ho.size]; exact hk)
/-! ## Two queues -/
/-- Behind the first of the two calls: q has gone on, its document's list in a box of its own. -/
structure Pair1 (w : World) (room g r g2 r2 : Nat) (p q : Part) (wb zb : Nat) (W : World) : Prop where
  hq : Chain w g r room p.l W
  hc : Chain w g2 r2 room q.l W
  x : Fine W (fun k => k < W.heap.size ∧ k ≠ g2 ∧ k ≠ r2) p
  y : Fine W (Off W g2 r2) q
  old : Has W wb 32 #[q.val, .int .i64 (room : Int)]
  box : Has W zb 32 #[p.val, .int .i64 (room : Int)]
  a1 : g ≠ g2
  a2 : g ≠ r2
  a3 : r ≠ g2
  a4 : r ≠ r2
  z1 : zb ≠ g2
  z2 : zb ≠ r2
/-- Behind both. -/
structure Pair2 (w : World) (room g r g2 r2 : Nat) (p q : Part) (zb zb2 : Nat) (W : World) : Prop where
  hq : Chain w g r room p.l W
  hc : Chain w g2 r2 room q.l W
  x : Fine W (· < W.heap.size) p
  y : Fine W (· < W.heap.size) q
  box : Has W zb 32 #[p.val, .int .i64 (room : Int)]
  box2 : Has W zb2 32 #[q.val, .int .i64 (room : Int)]
theorem Fine.below {W W' : World} {p : Part} (h : Fine W (· < W.heap.size) p) (hb : Below W.heap.size W W') : Fine W' (· < W'.heap.size) p :=
  (h.kept (Kept.below hb (fun _ hk => hk))).mono (fun _ hk => Nat.lt_of_lt_of_le hk hb.size)
theorem Pair2.below {w W W' : World} {room g r g2 r2 zb zb2 : Nat} {p q : Part} (h : Pair2 w room g r g2 r2 p q zb zb2 W) (hb : Below W.heap.size W W') : Pair2 w room g r g2 r2 p q zb zb2 W' :=
  ⟨h.hq.below hb, h.hc.below hb, h.x.below hb, h.y.below hb, h.box.below hb h.box.lt, h.box2.below hb h.box2.lt⟩
/-- What act asks of its queue, of one of two. -/
theorem act_chain {w W : World} {g r room : Nat} {l : List UInt8} {PA : Option Addr} {pc : Nat} {d : Deed} (X : Nat → Prop) (h : Chain w g r room l W) (hf : Fine W (OffX X W g r) ⟨PA, l, pc⟩) (hX : ∀ k, X k → k < W.heap.size) (hd : DeedOk w (· < w.heap.size) d) (hsum : d.a.l.length + d.b.l.length ≤ 300) :
    Calls Tryd.prog 11 #[.pointer (some ⟨g, 0, none⟩), .agg #[.slice PA l.length pc, .int .i64 (room : Int)], .agg #[.int .i64 d.what, .int .i64 d.n, .slice d.a.A d.a.l.length d.a.c, .slice d.b.A d.b.l.length d.b.c]] W (Acted X g r room W) := by
  have hS : ∀ k, k < w.heap.size → Off W g r k := fun k hk => by
    have := h.b.size; have := h.gge; have := h.rge
    exact ⟨by omega, by omega, by omega⟩
  have hk : Kept (· < w.heap.size) w W := fun k hk => h.b.block k hk
  have := (act_any X d g r room l PA pc W h.q h.lt hf hX ⟨⟨(hd.1.1.kept hk).mono hS, hd.1.2⟩, ⟨(hd.2.1.1.kept hk).mono hS, hd.2.1.2⟩, hd.2.2⟩ hsum)
  simpa only [refVal, Part.val] using this
theorem pair1_of {w wr W W' : World} {wb room g r g' r' g2 r2 pc : Nat} {l l' : List UInt8} {PA : Option Addr} {p' : Part} (h : Pl w wb room g r l PA pc wr) (hQ2 : Qu W g2 r2 room l) (hg2 : wr.heap.size ≤ g2) (hr2 : wr.heap.size ≤ r2) (hr2l : r2 < W.heap.size) (hB : Below wr.heap.size wr W)
    (hQ : Qu W' g' r' room l') (hlt : r' < W'.heap.size) (hl : p'.l = l') (hF : Fine W' (OffX (fun k => k = g2 ∨ k = r2) W' g' r') p') (hT : Turn g r W W') (hgr : (g' = g ∧ (r' = r ∨ W.heap.size ≤ r')) ∨ (W.heap.size ≤ g' ∧ W.heap.size ≤ r')) :
    Pair1 w room g' r' g2 r2 p' ⟨PA, l, pc⟩ wb W'.heap.size (W'.alloc (.cells #[.slice p'.A l'.length p'.c, .int .i64 (room : Int)] 32)) := by
  subst hl
  have h2 := h.below hB
  have hb := (Below.refl W'.heap.size W').alloc (Nat.le_refl _) (.cells #[.slice p'.A p'.l.length p'.c, .int .i64 (room : Int)] 32)
  have hz : (W'.alloc (.cells #[.slice p'.A p'.l.length p'.c, .int .i64 (room : Int)] 32)).heap.size = W'.heap.size + 1 := by simp
  have hbox := Has.new W' 32 #[.slice p'.A p'.l.length p'.c, .int .i64 (room : Int)]
  generalize (W'.alloc (.cells #[.slice p'.A p'.l.length p'.c, .int .i64 (room : Int)] 32)) = V at hb hz hbox ⊢
  have hs := hT.size
  have hg := h.ch.q.lt
  have hr := h.ch.lt
  have hgg := h.ch.gge
  have hrg := h.ch.rge
  have hb1 := h2.ch.b.size
  have hb0 := h.ch.b.size
  have hbz := hB.size
  have hg2l := hQ2.lt
  have hwb := h.box.lt
  have hB' : Below w.heap.size w W' := h2.ch.b.trans (hT.below hgg hrg hb1)
  have hB'' : Below w.heap.size w V := hB'.trans (hb.mono (by omega))
  have hQ2' : Qu W' g2 r2 room l := hQ2.kept (hT.block g2 hg2l (by omega) (by omega)) (hT.block r2 hr2l (by omega) (by omega))
  refine ⟨⟨hQ.below hb, by omega, by omega, by omega, hB''⟩, ⟨hQ2'.below hb, by omega, by omega, by omega, hB''⟩, ?_, ?_, ?_, hbox, by omega, by omega, by omega, by omega, by omega, by omega⟩
  · exact (hF.kept (Kept.below hb (fun k hk => hk.1))).mono (fun k hk => ⟨by have := hk.1; omega, fun e => hk.2.2.2 (.inl e), fun e => hk.2.2.2 (.inr e)⟩)
  · have f1 : Fine W (fun k => Off wr g r k ∧ k ≠ wb) ⟨PA, l, pc⟩ := h.fine.kept (Kept.below hB (fun k hk => hk.1.1))
    have f2 : Fine W' (fun k => Off wr g r k ∧ k ≠ wb) ⟨PA, l, pc⟩ := f1.kept (hT.kept (fun k hk => ⟨by have := hk.1.1; omega, hk.1.2.1, hk.1.2.2⟩))
    exact (f2.kept (Kept.below hb (fun k hk => by have := hk.1.1; omega))).mono (fun k hk => by have := hk.1.1; exact ⟨by omega, by omega, by omega⟩)
  · exact (hb.block wb (by omega)).trans ((hT.block wb (by omega) h.neg h.ner).trans h2.box)
theorem pair2_of {w W W' : World} {wb zb room g r g2 r2 g' r' : Nat} {p q p' : Part} {l' : List UInt8} (h : Pair1 w room g r g2 r2 p q wb zb W)
    (hQ : Qu W' g' r' room l') (hlt : r' < W'.heap.size) (hl : p'.l = l') (hF : Fine W' (OffX (fun _ => False) W' g' r') p') (hT : Turn g2 r2 W W') (hgr : (g' = g2 ∧ (r' = r2 ∨ W.heap.size ≤ r')) ∨ (W.heap.size ≤ g' ∧ W.heap.size ≤ r')) :
    Pair2 w room g r g' r' p p' zb W'.heap.size (W'.alloc (.cells #[.slice p'.A l'.length p'.c, .int .i64 (room : Int)] 32)) := by
  subst hl
  have hb := (Below.refl W'.heap.size W').alloc (Nat.le_refl _) (.cells #[.slice p'.A p'.l.length p'.c, .int .i64 (room : Int)] 32)
  have hz : (W'.alloc (.cells #[.slice p'.A p'.l.length p'.c, .int .i64 (room : Int)] 32)).heap.size = W'.heap.size + 1 := by simp
  have hbox := Has.new W' 32 #[.slice p'.A p'.l.length p'.c, .int .i64 (room : Int)]
  generalize (W'.alloc (.cells #[.slice p'.A p'.l.length p'.c, .int .i64 (room : Int)] 32)) = V at hb hz hbox ⊢
  have hs := hT.size
  have hgg := h.hc.gge
  have hrg := h.hc.rge
  have hb1 := h.hc.b.size
  have hgl := h.hq.q.lt
  have hrl := h.hq.lt
  have hzl := h.box.lt
  have ng := h.a1
  have nr := h.a3
  have ng2 := h.a2
  have nr2 := h.a4
  have hB' : Below w.heap.size w W' := h.hc.b.trans (hT.below hgg hrg hb1)
  have hB'' : Below w.heap.size w V := hB'.trans (hb.mono (by omega))
  have hQ1 : Qu W' g r room p.l := h.hq.q.kept (hT.block g hgl ng ng2) (hT.block r hrl nr nr2)
  refine ⟨⟨hQ1.below hb, by omega, h.hq.gge, h.hq.rge, hB''⟩, ⟨hQ.below hb, by omega, by omega, by omega, hB''⟩, ?_, ?_, ?_, hbox⟩
  · have f1 := h.x.kept (hT.kept (fun k hk => hk))
    exact (f1.kept (Kept.below hb (fun k hk => by have := hk.1; omega))).mono (fun k hk => by have := hk.1; show k < _; omega)
  · exact (hF.kept (Kept.below hb (fun k hk => hk.1))).mono (fun k hk => by have := hk.1; show k < _; omega)
  · exact (hb.block zb (by omega)).trans ((hT.block zb hzl h.z1 h.z2).trans h.box)
theorem same_bb {w : World} {g r room g' r' : Nat} {l l' : List UInt8} {bb : Bool} (h : Qu w g r room l) (h' : Qu w g' r' room l') (hlr : r < w.heap.size) (hb : (l == l') = bb) :
    Calls Tryd.prog 14 #[.pointer (some ⟨g, 0, none⟩), .pointer (some ⟨g', 0, none⟩)] w fun e w' => e = .returned (.bool bb) ∧ Below w.heap.size w w' := by
  have hd : decide (room = room ∧ l' = l) = bb := by
    rw [← hb]
    by_cases h : l' = l
    · rw [decide_eq_true ⟨rfl, h⟩, h]; simp
    · rw [decide_eq_false (fun x => h x.2)]; exact (beq_eq_false_iff_ne.2 (fun x => h x.symm)).symm
  have := same_any g r room g' r' room l l' w h h' hlr
  rw [hd] at this
  exact this
end Go.Proofs.YtfblkfjjpnnhhaaDoor
