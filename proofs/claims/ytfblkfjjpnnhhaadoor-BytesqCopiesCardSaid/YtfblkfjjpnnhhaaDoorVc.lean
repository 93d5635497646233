import Derived.Test.YtfblkfjjpnnhhaaDoorUz
import Derived.Test.YtfblkfjjpnnhhaaDoorUb
import Derived.Test.YtfblkfjjpnnhhaaDoorVa
import Derived.Test.YtfblkfjjpnnhhaaDoorVb
import Derived.Deep.CutRange
namespace Go.Proofs.YtfblkfjjpnnhhaaDoor
open Go.RowKit

/-! ## Plays, call by call -/
/-- The queue and the document's bear one list. -/
structure Pl (w : World) (wb room g r : Nat) (l : List UInt8) (PA : Option Addr) (pc : Nat) (W : World) : Prop where
  ch : Chain w g r room l W
  fine : Fine W (fun k => Off W g r k ∧ k ≠ wb) ⟨PA, l, pc⟩
  box : Has W wb 32 #[.slice PA l.length pc, .int .i64 (room : Int)]
  ge : w.heap.size ≤ wb
  neg : wb ≠ g
  ner : wb ≠ r
/-- Behind a call, ahead of the document's queue being handed on. -/
structure Pm (w : World) (wb zb room g r : Nat) (l : List UInt8) (PA : Option Addr) (pc : Nat) (v : Value) (W : World) : Prop where
  ch : Chain w g r room l W
  fine : Fine W (fun k => Off W g r k ∧ k ≠ wb) ⟨PA, l, pc⟩
  old : Has W wb 32 #[v, .int .i64 (room : Int)]
  box : Has W zb 32 #[.slice PA l.length pc, .int .i64 (room : Int)]
  ge : w.heap.size ≤ wb
  ne : zb ≠ wb
  neg : wb ≠ g
  ner : wb ≠ r
theorem Fine.imp {W : World} {S S' : Nat → Prop} {p : Part} (h : Fine W S p) (k : ∀ b, S b → S' b) : Fine W S' p := h.mono k
theorem Pl.below {w W W' : World} {wb room g r : Nat} {l : List UInt8} {PA : Option Addr} {pc : Nat} (h : Pl w wb room g r l PA pc W) (hb : Below W.heap.size W W') : Pl w wb room g r l PA pc W' :=
  ⟨h.ch.below hb, (h.fine.kept (Kept.below hb (fun _ hk => hk.1.1))).mono (fun _ hk => ⟨⟨Nat.lt_of_lt_of_le hk.1.1 hb.size, hk.1.2⟩, hk.2⟩), h.box.below hb h.box.lt, h.ge, h.neg, h.ner⟩
theorem Pm.done {w W : World} {wb zb room g r : Nat} {l : List UInt8} {PA : Option Addr} {pc : Nat} {v : Value} (h : Pm w wb zb room g r l PA pc v W) :
    Pl w wb room g r l PA pc ((W.setCell ⟨wb, 0, none⟩ (.slice PA l.length pc)).setCell ⟨wb, 1, none⟩ (.int .i64 (room : Int))) := by
  have ho := (only_setCell wb 0 W (.slice PA l.length pc)).trans (only_setCell wb 1 _ (.int .i64 (room : Int)))
  refine ⟨⟨h.ch.q.kept (ho.block g h.neg.symm) (ho.block r h.ner.symm), by rw [ho.size]; exact h.ch.lt, h.ch.gge, h.ch.rge, h.ch.b.trans (ho.below h.ge)⟩, (h.fine.kept (fun k hk => ho.block k hk.2)).mono (fun k hk => ?_), (h.old.put 0 _).put 1 _, h.ge, h.neg, h.ner⟩
  unfold Off
  rw [ho.size]
  exact hk
/-- What stands behind a call by both, the answer's box not yet filled. -/
theorem pm_of {w W W' : World} {wb zb room g r g' r' : Nat} {l l' : List UInt8} {PA PA' : Option Addr} {pc pc' n c : Nat} {A : Option Addr} (h : Pl w wb room g r l PA pc W) (hT : Turn g r W W') (hQ : Qu W' g' r' room l') (hlt : r' < W'.heap.size) (hF : Fine W' (Off W' g' r') ⟨PA', l', pc'⟩)
    (hgr : (g' = g ∧ (r' = r ∨ W.heap.size ≤ r')) ∨ (W.heap.size ≤ g' ∧ W.heap.size ≤ r')) {W'' : World} (hz : Has W'' zb 32 #[.slice PA' l'.length pc', .int .i64 (room : Int)]) (hzb : zb ≠ wb) (hk : ∀ k, k < W'.heap.size → k ≠ zb → W''.heap[k]? = W'.heap[k]?)
    (hs : W'.heap.size ≤ W''.heap.size) (ho : W''.os = W'.os ∧ W''.tape = W'.tape ∧ W''.output = W'.output) (hzq : zb ≠ g' ∧ zb ≠ r') (hzw : w.heap.size ≤ zb) (hold : Has W' zb 32 #[.slice A n c, .int .i64 0] ∨ W'.heap.size ≤ zb) : Pm w wb zb room g' r' l' PA' pc' (.slice PA l.length pc) W'' := by
  have hb1 := h.ch.b.size
  have hwb := h.box.lt
  have h1 := hT.size
  have hgg := h.ch.gge
  have hrg := h.ch.rge
  have hwb' : Has W' wb _ _ := (hT.block wb hwb h.neg h.ner).trans h.box
  have hB' : Below w.heap.size w W' := h.ch.b.trans (hT.below hgg hrg hb1)
  have hF2 := hF.off_box hwb'
  have hF3 : Fine W' (fun k => (Off W' g' r' k ∧ k ≠ wb) ∧ k ≠ zb) ⟨PA', l', pc'⟩ := by
    rcases hold with ho | ho
    · exact hF2.off_box (room := 0) ho
    · exact hF2.mono (fun k hk => ⟨hk, by have := hk.1.1; omega⟩)
  have hgl : g' < W'.heap.size := hQ.lt
  refine ⟨⟨hQ.kept (hk g' hgl hzq.1.symm) (hk r' hlt hzq.2.symm), by omega, by omega, by omega, ?_⟩, ?_, (hk wb (by omega) hzb.symm).trans hwb', hz, h.ge, hzb, by have := h.neg; omega, by have := h.ner; omega⟩
  · exact hB'.trans ⟨ho.1, ho.2.1, ho.2.2, hs, fun k hk2 => hk k (by omega) (by omega)⟩
  · exact (hF3.kept (fun k hk2 => hk k hk2.1.1.1 hk2.2)).mono (fun k hk2 => ⟨⟨by have := hk2.1.1.1; omega, hk2.1.1.2⟩, hk2.1.2⟩)
end Go.Proofs.YtfblkfjjpnnhhaaDoor
