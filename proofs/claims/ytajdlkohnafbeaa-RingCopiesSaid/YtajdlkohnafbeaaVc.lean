import Derived.Test.YtajdlkohnafbeaaU
import Derived.Test.YtajdlkohnafbeaaTc
namespace Go.Proofs.Ytajdlkohnafbeaa
open Go.RowKit

/-! ## Plays, call by call -/
/-- A call to a ring, as its law has it. -/
structure Deed where
  what : Int
  val : Int
  far : Nat
/-- A slice of calls. -/
def Deeds (w : World) (A : Option Addr) (ds : List Deed) : Prop := 0 < ds.length → ∃ b o, A = some ⟨b, o, none⟩ ∧ b < w.heap.size ∧ ∀ k d, ds[k]? = some d →
  w.cell? ⟨b, o + k * 3, none⟩ = some (.int .i64 d.what) ∧ w.cell? ⟨b, o + k * 3 + 1, none⟩ = some (.int .i64 d.val) ∧ w.cell? ⟨b, o + k * 3 + 2, none⟩ = some (.int .u64 (d.far : Int))
/-- The ring and the document's bear one list. -/
structure Pl (w : World) (wb most g r first : Nat) (l : List Int) (PA : Option Addr) (pc : Nat) (W : World) : Prop where
  ch : Chain w g r most first l W
  fine : Fine W (OffX (· = wb) W g r) PA l pc
  box : Has W wb 31 #[.slice PA l.length pc, .int .u64 (first : Int), .int .i64 (most : Int)]
  ge : w.heap.size ≤ wb
  neg : wb ≠ g
  ner : wb ≠ r
/-- Behind a call, ahead of the document's ring being handed on. -/
structure Pm (w : World) (wb zb most g r first : Nat) (l : List Int) (PA : Option Addr) (pc : Nat) (v u : Value) (W : World) : Prop where
  ch : Chain w g r most first l W
  fine : Fine W (OffX (· = wb) W g r) PA l pc
  old : Has W wb 31 #[v, u, .int .i64 (most : Int)]
  box : Has W zb 31 #[.slice PA l.length pc, .int .u64 (first : Int), .int .i64 (most : Int)]
  ge : w.heap.size ≤ wb
  ne : zb ≠ wb
  neg : wb ≠ g
  ner : wb ≠ r
section
variable {w W W' : World} {wb zb most g r first : Nat} {l : List Int} {PA : Option Addr} {pc : Nat} {v u : Value}
theorem Pl.below (h : Pl w wb most g r first l PA pc W) (hb : Below W.heap.size W W') : Pl w wb most g r first l PA pc W' :=
  ⟨h.ch.below hb, (h.fine.kept (Kept.below hb (fun _ hk => hk.1))).mono (fun _ hk => ⟨Nat.lt_of_lt_of_le hk.1 hb.size, hk.2⟩), h.box.below hb h.box.lt, h.ge, h.neg, h.ner⟩
theorem Pm.done (h : Pm w wb zb most g r first l PA pc v u W) :
    Pl w wb most g r first l PA pc (((W.setCell ⟨wb, 0, none⟩ (.slice PA l.length pc)).setCell ⟨wb, 1, none⟩ (.int .u64 (first : Int))).setCell ⟨wb, 2, none⟩ (.int .i64 (most : Int))) := by
  have ho := ((only_setCell wb 0 W (.slice PA l.length pc)).trans (only_setCell wb 1 _ (.int .u64 (first : Int)))).trans (only_setCell wb 2 _ (.int .i64 (most : Int)))
  refine ⟨⟨h.ch.q.kept (ho.block g h.neg.symm) (ho.block r h.ner.symm), h.ch.gge, h.ch.rge, h.ch.b.trans (ho.below h.ge)⟩, (h.fine.kept (fun k hk => ho.block k hk.2.2.2)).mono (fun k hk => ?_), ((h.old.put 0 _).put 1 _).put 2 _, h.ge, h.neg, h.ner⟩
  unfold OffX at hk ⊢
  rw [ho.size]
  exact hk
/-- What stands behind a call by both, the answer's box filled. -/
theorem pm_of {g' r' first' : Nat} {l' : List Int} {PA' : Option Addr} {pc' : Nat} (h : Pl w wb most g r first l PA pc W) (hT : Turn g r W W') (hQ : Rg W' g' r' most first' l') (hF : Fine W' (fun k => OffX (· = wb) W' g' r' k ∧ k ≠ zb) PA' l' pc')
    (hgr : (g' = g ∧ r' = r) ∨ (W.heap.size ≤ g' ∧ W.heap.size ≤ r')) {W'' : World} (hz : Has W'' zb 31 #[.slice PA' l'.length pc', .int .u64 (first' : Int), .int .i64 (most : Int)]) (hzb : zb ≠ wb) (hk : ∀ k, k < W'.heap.size → k ≠ zb → W''.heap[k]? = W'.heap[k]?)
    (hs : W'.heap.size ≤ W''.heap.size) (ho : W''.os = W'.os ∧ W''.tape = W'.tape ∧ W''.output = W'.output) (hzq : zb ≠ g' ∧ zb ≠ r') (hzw : w.heap.size ≤ zb) : Pm w wb zb most g' r' first' l' PA' pc' (.slice PA l.length pc) (.int .u64 (first : Int)) W'' := by
  have hb1 := h.ch.b.size
  have hwb := h.box.lt
  have h1 := hT.size
  have hgg := h.ch.gge
  have hrg := h.ch.rge
  have hwb' : Has W' wb _ _ := (hT.block wb hwb h.neg h.ner).trans h.box
  have hB' : Below w.heap.size w W' := h.ch.b.trans (hT.below hgg hrg hb1)
  have hgl := hQ.lt
  refine ⟨⟨hQ.kept (hk g' hgl.1 hzq.1.symm) (hk r' hgl.2 hzq.2.symm), by omega, by omega, ?_⟩, ?_, (hk wb (by omega) hzb.symm).trans hwb', hz, h.ge, hzb, by have := h.neg; omega, by have := h.ner; omega⟩
  · exact hB'.trans ⟨ho.1, ho.2.1, ho.2.2, hs, fun k hk2 => hk k (by omega) (by omega)⟩
  · exact (hF.kept (fun k hk2 => hk k hk2.1.1 hk2.2)).mono (fun k hk2 => ⟨by have := hk2.1.1; omega, hk2.1.2⟩)
end
theorem act_pl {w wr W : World} {wb most g r first : Nat} {l : List Int} {PA : Option Addr} {pc : Nat} (X : Nat → Prop) (d : Deed) (h : Pl w wb most g r first l PA pc wr) (hb : Below wr.heap.size wr W) (hX : ∀ k, X k → k < W.heap.size) (hXF : ∀ k, k < wr.heap.size → k ≠ wb → ¬ X k) :
    Calls Try.prog 11 #[.pointer (some ⟨g, 0, none⟩), .agg #[.slice PA l.length pc, .int .u64 (first : Int), .int .i64 (most : Int)], .agg #[.int .i64 d.what, .int .i64 d.val, .int .u64 (d.far : Int)]] W (Acted X g r most W) := by
  have h2 := h.below hb
  refine act_any X g r most first l l.length PA pc d.what d.val d.far W h2.ch.q rfl ?_ hX
  refine (h.fine.kept (Kept.below hb (fun _ hk => hk.1))).mono (fun k hk => ⟨Nat.lt_of_lt_of_le hk.1 hb.size, hk.2.1, hk.2.2.1, hXF k hk.1 hk.2.2.2⟩)
theorem turn_from {g r : Nat} {a b c : World} (h : Below a.heap.size a b) (k : Turn g r b c) : Turn g r a c := (turn_of_below h).trans k
end Go.Proofs.Ytajdlkohnafbeaa
