import Derived.Test.YtabgpnieekcdhaaDoorQ
import Derived.Test.YtabgpnieekcdhaaDoorL
namespace Go.Proofs.YtabgpnieekcdhaaDoor
open Go.RowKit

/-! ## A region that makes memory and writes no elder one, in whatever order: walked once, in the order of the text -/
/-- What a world may have grown to, its elder blocks as they were. -/
structure Grown (w : World) where
  v : World
  below : Below w.heap.size w v
instance grownOne (w : World) : Nonempty (Grown w) := ⟨⟨w, Below.refl _ _⟩⟩
theorem wpIn_region_grow {F : Fence} {n : Nat} {P : Program} {l : List Oper} {id : Nat} {Q : Exit → Act → World → Prop} {a : Act} {w : World} (hc : calm l = true) (hm : P.follows .mixedOrders = true) (hB : Region.lexB .any l.toArray = true)
    (h : wpQuietIn F n P l.toArray (fun w' => ∃ V : Grown w, w' = V.v) (fun a' => ∀ w', (∃ V : Grown w, w' = V.v) → Q .normal a' w') l a) : (Code.region id l.toArray true).wpIn F n P Q a w := by
  simp only [Region.lexB, Bool.and_eq_true] at hB
  refine wpIn_region_any hm (wpAnyIn_calm (C := fun w' => ∃ V : Grown w, w' = V.v) (Q := fun a' => ∀ w', (∃ V : Grown w, w' = V.v) → Q .normal a' w') hc (fun _ w' hw' h => h w' hw') .any _ _ _ _ ⟨⟨w.drew, (Below.refl _ _).drew⟩, rfl⟩ ?_)
  have := wpAnyQIn_lex (F := F) (n := n) (P := P) (C := fun w' => ∃ V : Grown w, w' = V.v) (md := .any) hB.1 l 0 (Array.replicate l.toArray.size false) a (by simp) (by simpa using hB.2) (by simpa using h)
  simpa using this
/-- A call that a region may hold: its answer hangs on nothing that may have grown. -/
theorem grow_call {P : Program} {f : FuncId} {args : Array Value} {v : Value} {w : World} (V : Grown w) (h : Calls P f args V.v fun e w' => e = .returned v ∧ Below V.v.heap.size V.v w') : Calls P f args V.v fun e w'' => e = .returned v ∧ ∃ V'' : Grown w, w'' = V''.v :=
  h.mono fun _ w'' h => ⟨h.1, ⟨w'', V.below.trans (h.2.mono V.below.size)⟩, rfl⟩
end Go.Proofs.YtabgpnieekcdhaaDoor
