import Derived.Test.YtabgpnieekcdhaaDoorL
import Derived.RangeFuncLeaves
import Derived.RangeFuncRecord
namespace Go.Proofs.YtabgpnieekcdhaaDoor
open Go.RowKit

/-! ## A range over a function whose ways out meet -/

/-- A block in which the rounds' deferred calls would stand, with none. -/
def NoCalls (W : World) (D : Nat) : Prop := W.heap[D]? = some (.deferred (some []))
theorem NoCalls.lt {W : World} {D : Nat} (h : NoCalls W D) : D < W.heap.size := (Array.getElem?_eq_some_iff.1 h).1
theorem NoCalls.alloc {W : World} {D : Nat} (h : NoCalls W D) (o : Obj) : NoCalls (W.alloc o) D := (Below.heap_alloc W o D h.lt).trans h
theorem NoCalls.drewN {W : World} {D : Nat} (h : NoCalls W D) (q : Nat) : NoCalls (W.drewN q) D := h
theorem NoCalls.below {W W' : World} {D B : Nat} (h : NoCalls W D) (hb : Below B W W') (hD : D < B) : NoCalls W' D := (hb.block D hD).trans h
theorem NoCalls.ne {W : World} {D k : Nat} {t : TypeId} {cs : Array Value} (h : NoCalls W D) (hh : Has W k t cs) : D ≠ k := fun e => by
  subst e; unfold NoCalls Has at *; rw [h] at hh; cases hh
theorem NoCalls.set {W : World} {D k i : Nat} {t : TypeId} {cs : Array Value} (h : NoCalls W D) (hh : Has W k t cs) (u : Value) : NoCalls (W.setCell ⟨k, i, none⟩ u) D :=
  (Below.heap_setCell W ⟨k, i, none⟩ u D (h.ne hh)).trans h
theorem NoCalls.put {W : World} {D k : Nat} (h : NoCalls W D) (o : Obj) (hk : D ≠ k) : NoCalls (W.putObj k o) D := (World.putObj_heap_other hk).trans h
theorem NoCalls.from {β : Type} {B D : Nat} (hD : D < B) : OwnFrom B (fun (_ : β) W => NoCalls W D) := fun s X Y row hs hg hr =>
  (hg.block D (NoCalls.lt hs) (fun e => by have := (hr D e.symm).1; omega)).trans hs
theorem Has.put_obj {W : World} {k l : Nat} {t : TypeId} {cs : Array Value} (h : Has W k t cs) (o : Obj) (hl : k ≠ l) : Has (W.putObj l o) k t cs := (World.putObj_heap_other hl).trans h

/-- The way on behind a range: whether all was gone over, or a label left it, the same is known. -/
theorem wpIn_range_meets {α : Type} {F : Fence} {n : Nat} {P : Program} {g : Operand} {ps : Array Tmp} {assign body : Code} {Q : Exit → Act → World → Prop} {a : Act} {w : World}
    (id : Nat) (hro : F.round = none) (h1 : 1 ≤ n) {gf : Nat} {lb : Array Value} (hg : a.eval g = .func (.func gf) #[] lb) (hFg : F.fn gf) (eg : ∀ args w, (callFunc gf args).run P w = .ok (.enter gf args) w)
    {encs : α → Array Value} {Kp : World → World → Prop} {S Sp : List α → Prop} {N : Nat} {w0 : World} (hseq : SeqStopsK F (n - 1) P gf lb encs Kp S Sp N w0)
    (hKt : ∀ {A B C : World}, Kp A B → Kp B C → Kp A C) (hKb : ∀ (W : World) (l : Nat) (o o' : Obj), w.heap.size ≤ l → W.heap[l]? = some o → o.isCells = false → o.isWalk = false → Kp W (W.putObj l o')) (hb0 : Below w0.heap.size w0 w) (hps : ∀ x, (encs x).size = ps.size)
    (I : List α → World → Prop) (Ix : Code → List α → World → Prop) (M : World → Prop) (hI : OwnFrom w.heap.size I) (hIx : ∀ c, OwnFrom w.heap.size (Ix c)) (h0 : I [] w)
    (hall : ∀ xs W, S xs → I xs W → M W) (hleft : ∀ c pre W, Sp pre → Ix c pre W → c = .exit id ∧ M W)
    (a₁ : α → Act)
    (hassign : ∀ (l : Nat) (x : α) (W : World) (K : Act → World → Prop), K (a₁ x) W →
      assign.wpIn (F.inRound l) (n - 1 - 1) P (Exit.then K (fun _ _ _ => False)) { tmps := (ps.zip (encs x)).foldl (fun t (p, v) => t.setIfInBounds p v) a.tmps, defers := [] } W)
    (hbody : ∀ (l : Nat) (pre : List α) (x : α) (W : World), I pre W → pre.length < N → body.wpIn (F.inRound l) (n - 1 - 1) P (ownPostG w.heap.size Kp I Ix (pre ++ [x]) W) (a₁ x) W)
    (hq : ∀ a W, Q .normal a W → Q (.exit id) a W)
    (hrest : ∀ (D : Nat) (W : World), w.heap.size ≤ D → M W → NoCalls W D → Q .normal { a with defers := { target := .collected D, args := #[] } :: a.defers } W) :
    (Code.rangeFunc g ps assign body).wpIn F n P Q a w :=
  wpIn_rangeFunc_ownG hro h1 hg hFg eg hseq (fun h k => hKt h k) hKb hb0 hps I Ix hI hIx h0 a₁ hassign hbody
    (fun D xs W hD hS hI hk => hrest D W hD (hall xs W hS hI) hk)
    (fun D c pre W hD hS hI hk => by
      obtain ⟨rfl, hM⟩ := hleft c pre W hS hI
      exact wpIn_exit (hq _ _ (hrest D W hD hM hk)))
end Go.Proofs.YtabgpnieekcdhaaDoor
