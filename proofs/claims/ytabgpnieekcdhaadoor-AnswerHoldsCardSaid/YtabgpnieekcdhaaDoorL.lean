import Derived.RangeFuncNested
import Derived.RangeFuncBox
import Derived.WalkKit
import Derived.OwnWalkIn
import Derived.Lib.Hide
import Derived.Deep.Draws
import Derived.Deep.QuietTactic
namespace Go.Proofs.YtabgpnieekcdhaaDoor
open Go.RowKit

/-! ## Small words that every layer's walks use -/

/-- A block of plain cells, known whole. -/
def Has (W : World) (k : Nat) (t : TypeId) (cs : Array Value) : Prop := W.heap[k]? = some (.cells cs t (0, 0))
theorem Has.lt {W : World} {k : Nat} {t : TypeId} {cs : Array Value} (h : Has W k t cs) : k < W.heap.size := (Array.getElem?_eq_some_iff.1 h).1
theorem Has.cell {W : World} {k : Nat} {t : TypeId} {cs : Array Value} (h : Has W k t cs) (i : Nat) : W.cell? ⟨k, i, none⟩ = cs[i]? := cell_of_row W k i cs t (0, 0) h
theorem Has.free {W : World} {k : Nat} {t : TypeId} {cs : Array Value} (h : Has W k t cs) (i : Nat) : W.frozen? ⟨k, i, none⟩ = false := by
  have h' : W.heap[k]? = some (.cells cs t (0, 0)) := h
  simp [World.frozen?, h']
theorem Has.new (W : World) (t : TypeId) (cs : Array Value) : Has (W.alloc (.cells cs t)) W.heap.size t cs := World.alloc_heap_new W _
theorem Has.alloc {W : World} {k : Nat} {t : TypeId} {cs : Array Value} (h : Has W k t cs) (o : Obj) : Has (W.alloc o) k t cs := (Below.heap_alloc W o k h.lt).trans h
theorem Has.drew {W : World} {k : Nat} {t : TypeId} {cs : Array Value} (h : Has W k t cs) : Has W.drew k t cs := h
theorem Has.put {W : World} {k : Nat} {t : TypeId} {cs : Array Value} (h : Has W k t cs) (i : Nat) (u : Value) : Has (W.setCell ⟨k, i, none⟩ u) k t (cs.setIfInBounds i u) := by
  unfold Has at h ⊢
  simp [World.setCell, Array.getElem?_modify, h]
theorem Has.other {W : World} {k : Nat} {t : TypeId} {cs : Array Value} (h : Has W k t cs) {j i : Nat} (hne : k ≠ j) (u : Value) : Has (W.setCell ⟨j, i, none⟩ u) k t cs := (Below.heap_setCell W ⟨j, i, none⟩ u k hne).trans h
theorem Has.below {W W' : World} {B k : Nat} {t : TypeId} {cs : Array Value} (h : Has W k t cs) (hb : Below B W W') (hk : k < B) : Has W' k t cs := (hb.block k hk).trans h

theorem Has.drewN {W : World} {k : Nat} {t : TypeId} {cs : Array Value} (h : Has W k t cs) (q : Nat) : Has (W.drewN q) k t cs := h
theorem others_drewN (W : World) (q : Nat) : KeepsOthers W (W.drewN q) := ⟨Nat.le_refl _, fun _ _ h _ => h⟩
theorem below_draws {B : Nat} {a w : World} (h : Below B a w) (q : Nat) : Below B a (w.drewN q) := ⟨h.os, h.tape, h.output, h.size, h.block⟩
theorem below_on {a b c : World} (h : Below a.heap.size a b) (k : Below b.heap.size b c) : Below a.heap.size a c := h.trans (k.mono h.size)
theorem others_below {W W' : World} (h : Below W.heap.size W W') : KeepsOthers W W' := ⟨h.size, fun k _ hk _ => (h.block k (Array.getElem?_eq_some_iff.1 hk).1).trans hk⟩

/-- What a sequence of bytes with their places tells. -/
def encPair (x : Nat × UInt8) : Array Value := #[.int .i64 (x.1 : Int), .int .u8 (x.2.toNat : Int)]

/-- These blocks are as they were. -/
def Kept (S : Nat → Prop) (W W' : World) : Prop := ∀ k, S k → W'.heap[k]? = W.heap[k]?
theorem Kept.refl (S : Nat → Prop) (W : World) : Kept S W W := fun _ _ => rfl
theorem Kept.trans {S : Nat → Prop} {A B C : World} (h : Kept S A B) (k : Kept S B C) : Kept S A C := fun j hj => (k j hj).trans (h j hj)
theorem kept_b {S : Nat → Prop} {w : World} (hS : ∀ k, S k → k < w.heap.size) (W : World) (l : Nat) (o o' : Obj) (hl : w.heap.size ≤ l) (_ : W.heap[l]? = some o) (_ : o.isCells = false) (_ : o.isWalk = false) : Kept S W (W.putObj l o') :=
  fun k hk => World.putObj_heap_other (by have := hS k hk; omega)
theorem Kept.draws {S : Nat → Prop} {A B : World} (h : Kept S A B) (q : Nat) : Kept S A (B.drewN q) := h
theorem Kept.setCell {S : Nat → Prop} {A B : World} (h : Kept S A B) {p : Addr} (hp : ¬ S p.block) (u : Value) : Kept S A (B.setCell p u) :=
  fun k hk => (Below.heap_setCell B p u k (fun e => hp (e ▸ hk))).trans (h k hk)
theorem Kept.below {S : Nat → Prop} {A B : World} {n : Nat} (h : Below n A B) (hS : ∀ k, S k → k < n) : Kept S A B := fun k hk => h.block k (hS k hk)
theorem Kept.has {S : Nat → Prop} {W W' : World} {k : Nat} {t : TypeId} {cs : Array Value} (h : Kept S W W') (hk : S k) (hh : Has W k t cs) : Has W' k t cs := (h k hk).trans hh

/-- What is said of one block below B stays said while other blocks from B on turn. -/
theorem has_from {β : Type} {B k : Nat} (hk : k < B) (t : TypeId) (f : β → Array Value) : OwnFrom B (fun s W => Has W k t (f s)) := fun s X Y row hs hg hr =>
  (hg.block k hs.lt (fun e => by have := (hr k e.symm).1; omega)).trans hs
end Go.Proofs.YtabgpnieekcdhaaDoor
