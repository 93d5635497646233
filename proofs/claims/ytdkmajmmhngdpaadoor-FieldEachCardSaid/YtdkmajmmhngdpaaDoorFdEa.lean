import Derived.Test.YtdkmajmmhngdpaaDoorFdY
import Derived.Test.YtdkmajmmhngdpaaDoorQ
import Derived.Test.YtdkmajmmhngdpaaDoorFdU
import Derived.Maps.AppendAt
import Derived.Lib.MinMax
namespace Go.Proofs.YtdkmajmmhngdpaaDoor
open Go.RowKit Go.Shelf
attribute [local go_sem] Oper.semAt_some
attribute [local go_sem] wide_fn wide_depth wide_round

/-! ## A region that makes memory and writes no elder one, within a round of a range over a function -/
/-- What a world may have grown to, its elder blocks as they were. -/
structure Grown (w : World) where
  v : World
  below : Below w.heap.size w v
instance grownOne (w : World) : Nonempty (Grown w) := ⟨⟨w, Below.refl _ _⟩⟩
theorem wpIn_region_grow {F : Fence} {n : Nat} {P : Program} {l : List Oper} {id : Nat} {Q : Exit → Act → World → Prop} {a : Act} {w : World} (hc : calm l = true) (hm : P.follows .mixedOrders = true) (hB : Region.lexB .any l.toArray = true)
    (h : wpQuietIn F n P l.toArray (fun w' => ∃ V : Grown w, w' = V.v) (fun a' => ∀ w', (∃ V : Grown w, w' = V.v) → Q .normal a' w') l a) : (Code.region id l.toArray true).wpIn F n P Q a w := by
  simp only [Region.lexB, Bool.and_eq_true] at hB
  refine wpIn_region_any hm (wpAnyIn_calm (C := fun w' => ∃ V : Grown w, w' = V.v) (Q := fun a' => ∀ w', (∃ V : Grown w, w' = V.v) → Q .normal a' w') hc (fun _ w' hw' h => h w' hw') .any _ _ _ _ ⟨⟨w.drew, (Below.refl _ _).drew⟩, rfl⟩ ?_)
  have := wpAnyQIn_lex (F := F) (n := n) (P := P) (C := fun w' => ∃ V : Grown w, w' = V.v) (md := .any) hB.1 l 0 (Array.replicate l.toArray.size false) a (by simp) (by simpa using hB.2) (by simpa using h)
  simpa using this
/-! ## A slice of numbers of one's own -/
def intsN (l : List Nat) : List Value := l.map fun (k : Nat) => Value.int .i64 (k : Int)
def OwnI (W : World) (n0 : Nat) (v : Value) (l : List Nat) : Prop := W.ownsRow n0 3 1 v l.length (intsN l)
theorem infoInt : (Tryd.prog.info? 3).map (fun i => (i.zero, i.size, i.bytes)) = some (some (.int .i64 0), 1, 8) := by kernel_rfl
theorem info_int : ∃ i, Tryd.prog.info? 3 = some i ∧ i.zero = some (.int .i64 0) ∧ i.size = 1 ∧ i.bytes = 8 := by
  have h := infoInt
  cases hi : Tryd.prog.info? 3 with
  | none => rw [hi] at h; cases h
  | some i =>
    rw [hi] at h
    simp at h
    exact ⟨i, rfl, h⟩
theorem OwnI.below {W W' : World} {n0 : Nat} {v : Value} {l : List Nat} (h : OwnI W n0 v l) (hb : Below W.heap.size W W') : OwnI W' n0 v l := by
  refine ⟨h.1, ?_⟩
  rcases h.2 with h | ⟨b, cap, cur, hv, hb', hh, k⟩
  · exact .inl h
  · exact .inr ⟨b, cap, cur, hv, hb', (hb.block b (Array.getElem?_eq_some_iff.1 hh).1).trans hh, k⟩
theorem OwnI.setCell {W : World} {n0 : Nat} {v : Value} {l : List Nat} (h : OwnI W n0 v l) {p : Addr} (hp : p.block < n0) (u : Value) : OwnI (W.setCell p u) n0 v l := by
  refine ⟨h.1, ?_⟩
  rcases h.2 with h | ⟨b, cap, cur, hv, hb', hh, k⟩
  · exact .inl h
  · exact .inr ⟨b, cap, cur, hv, hb', (Below.heap_setCell W p u b (by omega)).trans hh, k⟩
theorem OwnI.nil (W : World) (n0 : Nat) : OwnI W n0 (.slice none 0 0) [] := ⟨rfl, .inl ⟨rfl, rfl⟩⟩
theorem OwnI.own {W : World} {n0 : Nat} {v : Value} {l : List Nat} (h : OwnI W n0 v l) : ∀ g, v.ownBlock = some g → n0 ≤ g := by
  intro g hg
  rcases h.2 with ⟨rfl, _⟩ | ⟨b, cap, cur, rfl, hb', _⟩
  · cases hg
  · have : b = g := by simpa [Value.ownBlock] using hg
    omega
section
variable {w : World} {ops : Array Oper} {rest : List Oper} {o : Oper} {a : Act} {Q : Exit → Act → World → Prop} {n0 : Nat} {v : Value} {l : List Nat}
theorem wpList_append_int (hgd : o.guard = none) (s x : Operand) (ho : o.op = .call { callee := .builtin .append, args := #[s, x], argTypes := #[48, 48] }) (hsv : a.eval s = v) (hv : OwnI w n0 v l)
    (k : Nat) (p : Nat) (hxv : a.eval x = .slice (some ⟨k, 0, none⟩) 1 1) (hx : Has w k 3 #[.int .i64 (p : Int)]) (hs : l.length + 1 ≤ 1000000) (hn : n0 ≤ w.heap.size)
    (h : ∀ v' w', OwnI w' n0 v' (l ++ [p]) → w.grownBy w' v.ownBlock → wpList Tryd.prog ops Q rest (a.put o.dst v') w') : wpList Tryd.prog ops Q (o :: rest) a w := by
  obtain ⟨i, hi, hz, hz1, hz2⟩ := info_int
  refine wpList_append_own_at w hgd s x 48 ho n0 3 i (.int .i64 0) 1 8 Tryd.underlying48 hi hz hz1 hz2 rfl (by decide) v l.length (intsN l) hsv hv ⟨k, 0, none⟩ 1 1 [.int .i64 (p : Int)] hxv rfl (fun j u hu => ?_) (by intro u hu; rw [List.mem_singleton.1 hu]; rfl) (by simp only [maxLen]; omega) (by omega) hn (fun v' w' h1 h2 _ _ => h v' w' ?_ h2)
  · have hj : j = 0 := by
      have := (List.getElem?_eq_some_iff.1 hu).1
      simp at this
      omega
    subst hj
    have e : (⟨k, 0, none⟩ : Addr).add 0 = ⟨k, 0, none⟩ := by unfold Addr.add; split <;> simp_all
    rw [e, hx.cell]
    simpa using hu
  · unfold OwnI
    rw [List.length_append, List.length_singleton, show intsN (l ++ [p]) = intsN l ++ [.int .i64 (p : Int)] by simp [intsN]]
    exact h1
end
end Go.Proofs.YtdkmajmmhngdpaaDoor
