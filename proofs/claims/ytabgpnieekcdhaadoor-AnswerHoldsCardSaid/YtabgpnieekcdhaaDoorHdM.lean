import Derived.Test.YtabgpnieekcdhaaDoorRrA
import Derived.Test.YtabgpnieekcdhaaDoorBs
import Derived.Test.YtabgpnieekcdhaaDoorSt
import Derived.Test.YtabgpnieekcdhaaDoorV
import Derived.Shelf.Abstract
namespace Go.Proofs.YtabgpnieekcdhaaDoor
open Go.RowKit

/-! ## Pairs in memory (11's, without targets) -/
/-- Texts from an address on. -/
def Txs (W : World) (A : Option Addr) (ls : List (List UInt8)) : Prop := 0 < ls.length → ∃ b o, A = some ⟨b, o, none⟩ ∧ b < W.heap.size ∧ ∀ (i : Nat) (x : List UInt8), ls[i]? = some x → W.cell? ⟨b, o + i, none⟩ = some (.string ⟨x.toArray⟩)
/-- Pairs from an address on. -/
def Prs (W : World) (A : Option Addr) (qs : List PairL) : Prop := 0 < qs.length → ∃ b o, A = some ⟨b, o, none⟩ ∧ b < W.heap.size ∧ ∀ (i : Nat) (q : PairL), qs[i]? = some q → W.cell? ⟨b, o + i * 2, none⟩ = some (.string ⟨q.1.toArray⟩) ∧ W.cell? ⟨b, o + i * 2 + 1, none⟩ = some (.string ⟨q.2.toArray⟩)
theorem Txs.below {w W : World} {A : Option Addr} {ls : List (List UInt8)} (h : Txs w A ls) (hb : Below w.heap.size w W) : Txs W A ls := fun h0 => by
  obtain ⟨b, o, rfl, hlt, hc⟩ := h h0
  exact ⟨b, o, rfl, Nat.lt_of_lt_of_le hlt hb.size, fun i x hx => (World.cell?_of_block (hb.block b hlt)).trans (hc i x hx)⟩
theorem Prs.below {w W : World} {A : Option Addr} {qs : List PairL} (h : Prs w A qs) (hb : Below w.heap.size w W) : Prs W A qs := fun h0 => by
  obtain ⟨b, o, rfl, hlt, hc⟩ := h h0
  refine ⟨b, o, rfl, Nat.lt_of_lt_of_le hlt hb.size, fun i x hx => ?_⟩
  obtain ⟨h1, h2⟩ := hc i x hx
  exact ⟨(World.cell?_of_block (hb.block b hlt)).trans h1, (World.cell?_of_block (hb.block b hlt)).trans h2⟩
theorem Grew.refl (g : Nat) (w : World) : Grew g w w := ⟨rfl, rfl, rfl, Nat.le_refl _, fun _ _ _ => rfl⟩
theorem Grew.trans {g : Nat} {a b c : World} (h : Grew g a b) (k : Grew g b c) : Grew g a c := ⟨k.os.trans h.os, k.tape.trans h.tape, k.output.trans h.output, Nat.le_trans h.size k.size, fun i hi hg => (k.block i (Nat.lt_of_lt_of_le hi h.size) hg).trans (h.block i hi hg)⟩
theorem Grew.of_below {g : Nat} {w w' : World} (h : Below w.heap.size w w') : Grew g w w' := ⟨h.os, h.tape, h.output, h.size, fun k hk _ => h.block k hk⟩
theorem Grew.alloc {g : Nat} {w W : World} (h : Grew g w W) (o : Obj) : Grew g w (W.alloc o) := h.trans (Grew.of_below ((Below.refl W.heap.size W).alloc (Nat.le_refl _) o))
theorem Grew.grown {g : Nat} {w W W' : World} (h : Grew g w W) {ob : Option Nat} (hg : W.grownBy W' ob) (hv : ∀ k, ob = some k → w.heap.size ≤ k) : Grew g w W' :=
  ⟨hg.os.trans h.os, hg.tape.trans h.tape, hg.output.trans h.output, Nat.le_trans h.size hg.size, fun k hk hne => (hg.block k (Nat.lt_of_lt_of_le hk h.size) (fun e => by have := hv k e.symm; omega)).trans (h.block k hk hne)⟩
theorem Grew.setT {g : Nat} {w W : World} (h : Grew g w W) (i : Nat) (u : Value) : Grew g w (W.setCell ⟨g, i, none⟩ u) :=
  h.trans ⟨rfl, rfl, rfl, by simp [World.setCell], fun k _ hk => Below.heap_setCell W ⟨g, i, none⟩ u k hk⟩
theorem Grew.has {g k : Nat} {w W : World} {t : TypeId} {cs : Array Value} (h : Grew g w W) (hh : Has w k t cs) (hk : k ≠ g) : Has W k t cs := (h.block k hh.lt hk).trans hh
theorem Txs.grew {g : Nat} {w W : World} {A : Option Addr} {ls : List (List UInt8)} (h : Txs w A ls) (hb : Grew g w W) (hA : ∀ b o, A = some ⟨b, o, none⟩ → b ≠ g) : Txs W A ls := fun h0 => by
  obtain ⟨b, o, rfl, hlt, hc⟩ := h h0
  exact ⟨b, o, rfl, Nat.lt_of_lt_of_le hlt hb.size, fun i x hx => (World.cell?_of_block (hb.block b hlt (hA b o rfl))).trans (hc i x hx)⟩
theorem Strs.txs {W : World} {n0 : Nat} {v : Value} {l : List (List UInt8)} (h : Strs W n0 v l) : ∃ A c, v = .slice A l.length c ∧ Txs W A l ∧ ∀ b o, A = some ⟨b, o, none⟩ → n0 ≤ b := by
  obtain ⟨A, g, c, cur, rfl, h1, h2⟩ := h.shape
  rcases Nat.eq_zero_or_pos l.length with h0 | h0
  · rcases h.2 with ⟨hv, _⟩ | ⟨g', c', _, hv, hb, _⟩
    · injection hv with hv _ _
      subst hv
      exact ⟨none, c, rfl, fun h => by omega, fun b o e => by cases e⟩
    · injection hv with hv _ _
      subst hv
      exact ⟨_, c, rfl, fun h => by omega, fun b o e => by injection e with e; injection e with e; omega⟩
  · obtain ⟨rfl, hb, hh⟩ := h1 h0
    refine ⟨_, c, rfl, fun _ => ⟨g, 0, rfl, hh.lt, fun i x hx => ?_⟩, fun b o e => by injection e with e; injection e with e; omega⟩
    rw [Nat.zero_add, hh.cell]
    exact h2 i x hx
theorem Strs.kept {W W' : World} {n0 : Nat} {v : Value} {l : List (List UInt8)} (h : Strs W n0 v l) (k : ∀ g, v.ownBlock = some g → W'.heap[g]? = W.heap[g]?) : Strs W' n0 v l := by
  refine ⟨h.1, ?_⟩
  rcases h.2 with h | ⟨g, cap, cur, rfl, hb, hg, r⟩
  · exact .inl h
  · exact .inr ⟨g, cap, cur, rfl, hb, (k g rfl).trans hg, r⟩
theorem Strs.grew {g : Nat} {W W' : World} {n0 : Nat} {v : Value} {l : List (List UInt8)} (h : Strs W n0 v l) (hb : Grew g W W') (hg : g < n0) : Strs W' n0 v l :=
  h.kept fun k e => by
    obtain ⟨h1, _, h2⟩ := h.own k e
    exact hb.block k h2.lt (by omega)
def prsC (l : List PairL) : List Value := l.flatMap fun q => [.string ⟨q.1.toArray⟩, .string ⟨q.2.toArray⟩]
theorem prsC_append (l m : List PairL) : prsC (l ++ m) = prsC l ++ prsC m := by simp [prsC]
theorem prsC_one (l : List PairL) : ∀ u ∈ prsC l, u.oneCell' = true := by
  intro u hu
  obtain ⟨x, _, hu⟩ := List.mem_flatMap.1 hu
  simp only [List.mem_cons, List.not_mem_nil, or_false] at hu
  rcases hu with rfl | rfl <;> rfl
theorem prsC_get : ∀ (l : List PairL) (i : Nat) (q : PairL), l[i]? = some q → (prsC l)[i * 2]? = some (.string ⟨q.1.toArray⟩) ∧ (prsC l)[i * 2 + 1]? = some (.string ⟨q.2.toArray⟩)
  | [], i, x, h => by simp at h
  | y :: l, 0, x, h => by
    obtain rfl : y = x := by simpa using h
    exact ⟨rfl, rfl⟩
  | y :: l, i + 1, x, h => by
    have := prsC_get l i x (by simpa using h)
    have e : ∀ n, (prsC (y :: l))[n + 1 + 1]? = (prsC l)[n]? := fun n => rfl
    rw [show (i + 1) * 2 = i * 2 + 1 + 1 by omega, show i * 2 + 1 + 1 + 1 = (i * 2 + 1) + 1 + 1 by omega, e, e]
    exact this
end Go.Proofs.YtabgpnieekcdhaaDoor
