import Derived.Test.YtajdlkohnafbeaaL
import Derived.Test.YtajdlkohnafbeaaProg
namespace Go.Proofs.Ytajdlkohnafbeaa
open Go.RowKit

/-! ## A ring in memory -/
def ints (l : List Int) : List Value := l.map fun z => .int .i64 z
theorem ints_length (l : List Int) : (ints l).length = l.length := by simp [ints]
/-- The ring at g, its values in the row r: at most so many, the oldest one's index, the values. -/
structure RgAt (W : World) (g r most cap first : Nat) (cs : Array Value) (row vs : List Int) : Prop where
  head : Has W g 50 #[.int .u64 (first : Int), .int .u64 ((first + vs.length : Nat) : Int), .slice (some ⟨r, 0, none⟩) most cap]
  body : Has W r 3 cs
  cells : ∀ j (h : j < row.length), cs[j]? = some (.int .i64 row[j])
  len : row.length = most
  at_ : ∀ i (h : i < vs.length), row[(first + i) % most]? = some vs[i]
  pos : 1 ≤ most
  top : most ≤ 4096
  fit : vs.length ≤ most
  last : first + vs.length ≤ 18446744073709551615
def Rg (W : World) (g r most first : Nat) (vs : List Int) : Prop := ∃ cap cs row, RgAt W g r most cap first cs row vs
theorem Has.other_block {W : World} {k j : Nat} {t t' : TypeId} {cs cs' : Array Value} (h : Has W k t cs) (h' : Has W j t' cs') (hne : t ≠ t') : k ≠ j := fun e => by
  subst e
  unfold Has at h h'
  rw [h] at h'
  injection h' with h'
  injection h' with _ h'
  exact hne h'
section
variable {W W' : World} {g r most cap first : Nat} {cs : Array Value} {row vs : List Int}
theorem RgAt.ne (h : RgAt W g r most cap first cs row vs) : g ≠ r := h.head.other_block h.body (by decide)
theorem RgAt.kept (h : RgAt W g r most cap first cs row vs) (hg : W'.heap[g]? = W.heap[g]?) (hr : W'.heap[r]? = W.heap[r]?) : RgAt W' g r most cap first cs row vs :=
  ⟨hg.trans h.head, hr.trans h.body, h.cells, h.len, h.at_, h.pos, h.top, h.fit, h.last⟩
/-- What stands at a value's index. -/
theorem RgAt.here (h : RgAt W g r most cap first cs row vs) {i : Nat} (hi : i < vs.length) : W.cell? ⟨r, (first + i) % most, none⟩ = some (.int .i64 vs[i]) := by
  have h1 := h.at_ i hi
  obtain ⟨hl, h2⟩ := List.getElem?_eq_some_iff.1 h1
  rw [h.body.cell, h.cells _ hl, h2]
theorem Rg.kept (h : Rg W g r most first vs) (hg : W'.heap[g]? = W.heap[g]?) (hr : W'.heap[r]? = W.heap[r]?) : Rg W' g r most first vs := by
  obtain ⟨cap, cs, row, h⟩ := h
  exact ⟨cap, cs, row, h.kept hg hr⟩
theorem Rg.lt (h : Rg W g r most first vs) : g < W.heap.size ∧ r < W.heap.size := by
  obtain ⟨cap, cs, row, h⟩ := h
  exact ⟨h.head.lt, h.body.lt⟩
theorem Rg.ne (h : Rg W g r most first vs) : g ≠ r := by
  obtain ⟨cap, cs, row, h⟩ := h
  exact h.ne
theorem Rg.below (h : Rg W g r most first vs) (hb : Below W.heap.size W W') : Rg W' g r most first vs := h.kept (hb.block g h.lt.1) (hb.block r h.lt.2)
theorem Rg.num (h : Rg W g r most first vs) : 1 ≤ most ∧ most ≤ 4096 ∧ vs.length ≤ most ∧ first + vs.length ≤ 18446744073709551615 := by
  obtain ⟨cap, cs, row, h⟩ := h
  exact ⟨h.pos, h.top, h.fit, h.last⟩
theorem Rg.c0 (h : Rg W g r most first vs) : W.cell? ⟨g, 0, none⟩ = some (.int .u64 (first : Int)) := by
  obtain ⟨cap, cs, row, h⟩ := h
  exact h.head.cell 0
theorem Rg.c1 (h : Rg W g r most first vs) : W.cell? ⟨g, 1, none⟩ = some (.int .u64 ((first + vs.length : Nat) : Int)) := by
  obtain ⟨cap, cs, row, h⟩ := h
  exact h.head.cell 1
theorem Rg.c2 (h : Rg W g r most first vs) : ∃ cap, W.cell? ⟨g, 2, none⟩ = some (.slice (some ⟨r, 0, none⟩) most cap) := by
  obtain ⟨cap, cs, row, h⟩ := h
  exact ⟨cap, h.head.cell 2⟩
end
/-- But for these two blocks, and what is new, the world is as it was. -/
structure Turn (g r : Nat) (w w' : World) : Prop where
  os : w'.os = w.os
  tape : w'.tape = w.tape
  output : w'.output = w.output
  size : w.heap.size ≤ w'.heap.size
  block : ∀ k, k < w.heap.size → k ≠ g → k ≠ r → w'.heap[k]? = w.heap[k]?
theorem turn_of_below {g r : Nat} {w w' : World} (h : Below w.heap.size w w') : Turn g r w w' := ⟨h.os, h.tape, h.output, h.size, fun k hk _ _ => h.block k hk⟩
theorem Turn.refl (g r : Nat) (w : World) : Turn g r w w := ⟨rfl, rfl, rfl, Nat.le_refl _, fun _ _ _ _ => rfl⟩
theorem Turn.trans {g r : Nat} {a b c : World} (h : Turn g r a b) (k : Turn g r b c) : Turn g r a c :=
  ⟨k.os.trans h.os, k.tape.trans h.tape, k.output.trans h.output, Nat.le_trans h.size k.size, fun i hi h1 h2 => (k.block i (Nat.lt_of_lt_of_le hi h.size) h1 h2).trans (h.block i hi h1 h2)⟩
theorem Turn.below {g r B : Nat} {w w' : World} (h : Turn g r w w') (hg : B ≤ g) (hr : B ≤ r) (hB : B ≤ w.heap.size) : Below B w w' :=
  ⟨h.os, h.tape, h.output, h.size, fun k hk => h.block k (by omega) (by omega) (by omega)⟩
theorem Turn.draws {g r : Nat} {a b : World} (h : Turn g r a b) (q : Nat) : Turn g r a (b.drewN q) := ⟨h.os, h.tape, h.output, h.size, h.block⟩
theorem turn_cell (g r i : Nat) (w : World) (u : Value) : Turn g r w (w.setCell ⟨g, i, none⟩ u) :=
  ⟨rfl, rfl, rfl, by simp [World.setCell], fun k _ hk _ => Below.heap_setCell w ⟨g, i, none⟩ u k hk⟩
theorem turn_row (g r i : Nat) (w : World) (u : Value) : Turn g r w (w.setCell ⟨r, i, none⟩ u) :=
  ⟨rfl, rfl, rfl, by simp [World.setCell], fun k _ _ hk => Below.heap_setCell w ⟨r, i, none⟩ u k hk⟩
end Go.Proofs.Ytajdlkohnafbeaa
