import Derived.Test.YtajdlkohnafbeaaVd
import Derived.Test.YtajdlkohnafbeaaVe
import Derived.Test.YtajdlkohnafbeaaVf
namespace Go.Proofs.Ytajdlkohnafbeaa
open Go.RowKit

theorem Deeds.below {w w' : World} {A : Option Addr} {ds : List Deed} (h : Deeds w A ds) (hb : Below w.heap.size w w') : Deeds w' A ds := fun hl => by
  obtain ⟨b, o, e, hS, hc⟩ := h hl
  refine ⟨b, o, e, Nat.lt_of_lt_of_le hS hb.size, fun k d hd => ?_⟩
  obtain ⟨h0, h1, h2⟩ := hc k d hd
  exact ⟨(hb.cell (p := ⟨b, o + k * 3, none⟩) hS).trans h0, (hb.cell (p := ⟨b, o + k * 3 + 1, none⟩) hS).trans h1, (hb.cell (p := ⟨b, o + k * 3 + 2, none⟩) hS).trans h2⟩
theorem Pl.acted {w W W' : World} {wb most g r first g' r' first' : Nat} {l l' : List Int} {PA A' : Option Addr} {pc c' : Nat} (h : Pl w wb most g r first l PA pc W) (hQ : Rg W' g' r' most first' l') (hF : Fine W' (OffX (· = wb) W' g' r') A' l' c') (hT : Turn g r W W')
    (hgr : (g' = g ∧ r' = r) ∨ (W.heap.size ≤ g' ∧ W.heap.size ≤ r')) :
    Pl w wb most g' r' first' l' A' c' (((W'.setCell ⟨wb, 0, none⟩ (.slice A' l'.length c')).setCell ⟨wb, 1, none⟩ (.int .u64 (first' : Int))).setCell ⟨wb, 2, none⟩ (.int .i64 (most : Int))) := by
  have hb1 := h.ch.b.size
  have hwb := h.box.lt
  have hwb' : Has W' wb _ _ := (hT.block wb hwb h.neg h.ner).trans h.box
  have hgg := h.ch.gge
  have hrg := h.ch.rge
  have hneg := h.neg
  have hner := h.ner
  have ho := ((only_setCell wb 0 W' (.slice A' l'.length c')).trans (only_setCell wb 1 _ (.int .u64 (first' : Int)))).trans (only_setCell wb 2 _ (.int .i64 (most : Int)))
  have hng : wb ≠ g' := by omega
  have hnr : wb ≠ r' := by omega
  refine ⟨⟨hQ.kept (ho.block g' hng.symm) (ho.block r' hnr.symm), by omega, by omega, (h.ch.b.trans (hT.below hgg hrg hb1)).trans (ho.below h.ge)⟩, (hF.kept (fun k hk => ho.block k hk.2.2.2)).mono (fun k hk => ?_), ((hwb'.put 0 _).put 1 _).put 2 _, h.ge, hng, hnr⟩
  unfold OffX at hk ⊢
  rw [ho.size]
  exact hk
/-! ## Two rings -/
/-- A document's ring, its cap aside. -/
structure Lst where
  f : Nat
  l : List Int
  A : Option Addr
  c : Nat
def Lst.cells (p : Lst) (most : Nat) : Array Value := #[.slice p.A p.l.length p.c, .int .u64 (p.f : Int), .int .i64 (most : Int)]
/-- Behind the first of the two calls: the ring has gone on, its document's list in a box of its own. -/
structure Pair1 (w : World) (most g r g2 r2 : Nat) (p q : Lst) (wb zb : Nat) (W : World) : Prop where
  hq : Chain w g r most p.f p.l W
  hc : Chain w g2 r2 most q.f q.l W
  x : Fine W (fun k => k < W.heap.size ∧ k ≠ g2 ∧ k ≠ r2) p.A p.l p.c
  y : Fine W (OffX (fun _ => False) W g2 r2) q.A q.l q.c
  old : Has W wb 31 (q.cells most)
  box : Has W zb 31 (p.cells most)
  a1 : g ≠ g2
  a2 : g ≠ r2
  a3 : r ≠ g2
  a4 : r ≠ r2
  z1 : zb ≠ g2
  z2 : zb ≠ r2
/-- Behind both. -/
structure Pair2 (w : World) (most g r g2 r2 : Nat) (p q : Lst) (zb zb2 : Nat) (W : World) : Prop where
  hq : Chain w g r most p.f p.l W
  hc : Chain w g2 r2 most q.f q.l W
  x : Fine W (· < W.heap.size) p.A p.l p.c
  y : Fine W (· < W.heap.size) q.A q.l q.c
  box : Has W zb 31 (p.cells most)
  box2 : Has W zb2 31 (q.cells most)
theorem Fine.below {W W' : World} {A : Option Addr} {l : List Int} {c : Nat} (h : Fine W (· < W.heap.size) A l c) (hb : Below W.heap.size W W') : Fine W' (· < W'.heap.size) A l c :=
  (h.kept (Kept.below hb (fun _ hk => hk))).mono (fun _ hk => Nat.lt_of_lt_of_le hk hb.size)
theorem Pair2.below {w W W' : World} {most g r g2 r2 zb zb2 : Nat} {p q : Lst} (h : Pair2 w most g r g2 r2 p q zb zb2 W) (hb : Below W.heap.size W W') : Pair2 w most g r g2 r2 p q zb zb2 W' :=
  ⟨h.hq.below hb, h.hc.below hb, h.x.below hb, h.y.below hb, h.box.below hb h.box.lt, h.box2.below hb h.box2.lt⟩
theorem Turn.kept {g r : Nat} {w w' : World} {S : Nat → Prop} (h : Turn g r w w') (hS : ∀ k, S k → k < w.heap.size ∧ k ≠ g ∧ k ≠ r) : Kept S w w' := fun k hk => h.block k (hS k hk).1 (hS k hk).2.1 (hS k hk).2.2
theorem pair1_of {w wr W W' : World} {wb most g r first g' r' g2 r2 pc : Nat} {l : List Int} {PA : Option Addr} {p' : Lst} (h : Pl w wb most g r first l PA pc wr) (hQ2 : Rg W g2 r2 most first l) (hg2 : wr.heap.size ≤ g2) (hr2 : wr.heap.size ≤ r2) (hB : Below wr.heap.size wr W)
    (hQ : Rg W' g' r' most p'.f p'.l) (hF : Fine W' (OffX (fun k => k = g2 ∨ k = r2) W' g' r') p'.A p'.l p'.c) (hT : Turn g r W W') (hgr : (g' = g ∧ r' = r) ∨ (W.heap.size ≤ g' ∧ W.heap.size ≤ r')) :
    Pair1 w most g' r' g2 r2 p' ⟨first, l, PA, pc⟩ wb W'.heap.size (W'.alloc (.cells #[.slice p'.A p'.l.length p'.c, .int .u64 (p'.f : Int), .int .i64 (most : Int)] 31)) := by
  have h2 := h.below hB
  have hb := (Below.refl W'.heap.size W').alloc (Nat.le_refl _) (.cells #[.slice p'.A p'.l.length p'.c, .int .u64 (p'.f : Int), .int .i64 (most : Int)] 31)
  have hz : (W'.alloc (.cells #[.slice p'.A p'.l.length p'.c, .int .u64 (p'.f : Int), .int .i64 (most : Int)] 31)).heap.size = W'.heap.size + 1 := by simp
  have hbox := Has.new W' 31 #[.slice p'.A p'.l.length p'.c, .int .u64 (p'.f : Int), .int .i64 (most : Int)]
  generalize (W'.alloc (.cells #[.slice p'.A p'.l.length p'.c, .int .u64 (p'.f : Int), .int .i64 (most : Int)] 31)) = V at hb hz hbox ⊢
  have hs := hT.size
  have hg := h.ch.q.lt
  have hgg := h.ch.gge
  have hrg := h.ch.rge
  have hb1 := h2.ch.b.size
  have hb0 := h.ch.b.size
  have hbz := hB.size
  have hg2l := hQ2.lt
  have hwb := h.box.lt
  have hql := hQ.lt
  have hB' : Below w.heap.size w W' := h2.ch.b.trans (hT.below hgg hrg hb1)
  have hB'' : Below w.heap.size w V := hB'.trans (hb.mono (by omega))
  have hQ2' : Rg W' g2 r2 most first l := hQ2.kept (hT.block g2 hg2l.1 (by omega) (by omega)) (hT.block r2 hg2l.2 (by omega) (by omega))
  refine ⟨⟨hQ.below hb, by omega, by omega, hB''⟩, ⟨hQ2'.below hb, by omega, by omega, hB''⟩, ?_, ?_, ?_, hbox, by omega, by omega, by omega, by omega, by omega, by omega⟩
  · exact (hF.kept (Kept.below hb (fun k hk => hk.1))).mono (fun k hk => ⟨by have := hk.1; omega, fun e => hk.2.2.2 (.inl e), fun e => hk.2.2.2 (.inr e)⟩)
  · have f1 : Fine W (OffX (· = wb) wr g r) PA l pc := h.fine.kept (Kept.below hB (fun k hk => hk.1))
    have f2 : Fine W' (OffX (· = wb) wr g r) PA l pc := f1.kept (hT.kept (fun k hk => ⟨by have := hk.1; omega, hk.2.1, hk.2.2.1⟩))
    exact (f2.kept (Kept.below hb (fun k hk => by have := hk.1; omega))).mono (fun k hk => by have := hk.1; exact ⟨by omega, by omega, by omega, fun h => h⟩)
  · exact (hb.block wb (by omega)).trans ((hT.block wb (by omega) h.neg h.ner).trans h2.box)
theorem pair2_of {w W W' : World} {wb zb most g r g2 r2 g' r' : Nat} {p q p' : Lst} (h : Pair1 w most g r g2 r2 p q wb zb W)
    (hQ : Rg W' g' r' most p'.f p'.l) (hF : Fine W' (OffX (fun _ => False) W' g' r') p'.A p'.l p'.c) (hT : Turn g2 r2 W W') (hgr : (g' = g2 ∧ r' = r2) ∨ (W.heap.size ≤ g' ∧ W.heap.size ≤ r')) :
    Pair2 w most g r g' r' p p' zb W'.heap.size (W'.alloc (.cells #[.slice p'.A p'.l.length p'.c, .int .u64 (p'.f : Int), .int .i64 (most : Int)] 31)) := by
  have hb := (Below.refl W'.heap.size W').alloc (Nat.le_refl _) (.cells #[.slice p'.A p'.l.length p'.c, .int .u64 (p'.f : Int), .int .i64 (most : Int)] 31)
  have hz : (W'.alloc (.cells #[.slice p'.A p'.l.length p'.c, .int .u64 (p'.f : Int), .int .i64 (most : Int)] 31)).heap.size = W'.heap.size + 1 := by simp
  have hbox := Has.new W' 31 #[.slice p'.A p'.l.length p'.c, .int .u64 (p'.f : Int), .int .i64 (most : Int)]
  generalize (W'.alloc (.cells #[.slice p'.A p'.l.length p'.c, .int .u64 (p'.f : Int), .int .i64 (most : Int)] 31)) = V at hb hz hbox ⊢
  have hs := hT.size
  have hgg := h.hc.gge
  have hrg := h.hc.rge
  have hb1 := h.hc.b.size
  have hgl := h.hq.q.lt
  have hzl := h.box.lt
  have ng := h.a1
  have nr := h.a3
  have ng2 := h.a2
  have nr2 := h.a4
  have hql := hQ.lt
  have hB' : Below w.heap.size w W' := h.hc.b.trans (hT.below hgg hrg hb1)
  have hB'' : Below w.heap.size w V := hB'.trans (hb.mono (by omega))
  have hQ1 : Rg W' g r most p.f p.l := h.hq.q.kept (hT.block g hgl.1 ng ng2) (hT.block r hgl.2 nr nr2)
  refine ⟨⟨hQ1.below hb, h.hq.gge, h.hq.rge, hB''⟩, ⟨hQ.below hb, by omega, by omega, hB''⟩, ?_, ?_, ?_, hbox⟩
  · have f1 := h.x.kept (hT.kept (fun k hk => hk))
    exact (f1.kept (Kept.below hb (fun k hk => by have := hk.1; omega))).mono (fun k hk => by have := hk.1; show k < _; omega)
  · exact (hF.kept (Kept.below hb (fun k hk => hk.1))).mono (fun k hk => by have := hk.1; show k < _; omega)
  · exact (hb.block zb (by omega)).trans ((hT.block zb hzl h.z1 h.z2).trans h.box)
theorem same_bb {w : World} {g r most f g' r' f' : Nat} {l l' : List Int} {bb : Bool} (h : Rg w g r most f l) (h' : Rg w g' r' most f' l') (hb : decide (f = f' ∧ most = most ∧ l = l') = bb) :
    Calls Try.prog 15 #[.pointer (some ⟨g, 0, none⟩), .pointer (some ⟨g', 0, none⟩)] w fun e w' => e = .returned (.bool bb) ∧ Below w.heap.size w w' := by
  have hd : decide (most = most ∧ f = f' ∧ l' = l) = bb := by
    rw [← hb]
    exact decide_eq_decide.2 ⟨fun h => ⟨h.2.1, rfl, h.2.2.symm⟩, fun h => ⟨rfl, h.1, h.2.2.symm⟩⟩
  have := same_any g r most f g' r' most f' l l' w h h'
  rw [hd] at this
  exact this
end Go.Proofs.Ytajdlkohnafbeaa
