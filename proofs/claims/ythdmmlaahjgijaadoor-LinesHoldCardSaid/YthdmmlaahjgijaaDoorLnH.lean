import Derived.Test.YthdmmlaahjgijaaDoorLnG
import Derived.Laws.AppendOwn
namespace Go.Proofs.YthdmmlaahjgijaaDoor
open Go.RowKit

/-! ## Lines in memory: a list of them -/
def linesC (l : List (List UInt8 × Bool)) : List Value := l.flatMap fun x => [.string ⟨x.1.toArray⟩, .bool x.2]
theorem linesC_length (l : List (List UInt8 × Bool)) : (linesC l).length = l.length * 2 := by
  induction l with
  | nil => rfl
  | cons x l ih => simp only [linesC, List.flatMap_cons, List.length_append, List.length_cons, List.length_nil] at ih ⊢; omega
theorem linesC_append (l m : List (List UInt8 × Bool)) : linesC (l ++ m) = linesC l ++ linesC m := by simp [linesC]
theorem linesC_get : ∀ (l : List (List UInt8 × Bool)) (i : Nat) (x : List UInt8 × Bool), l[i]? = some x → (linesC l)[i * 2]? = some (.string ⟨x.1.toArray⟩) ∧ (linesC l)[i * 2 + 1]? = some (.bool x.2)
  | [], i, x, h => by simp at h
  | y :: l, 0, x, h => by
    obtain rfl : y = x := by simpa using h
    exact ⟨rfl, rfl⟩
  | y :: l, i + 1, x, h => by
    have := linesC_get l i x (by simpa using h)
    show ((.string ⟨y.1.toArray⟩) :: (.bool y.2) :: linesC l)[(i + 1) * 2]? = _ ∧ ((.string ⟨y.1.toArray⟩) :: (.bool y.2) :: linesC l)[(i + 1) * 2 + 1]? = _
    rw [show (i + 1) * 2 = i * 2 + 1 + 1 from by omega, List.getElem?_cons_succ, List.getElem?_cons_succ, List.getElem?_cons_succ, List.getElem?_cons_succ]
    exact this
theorem linesC_one (l : List (List UInt8 × Bool)) : ∀ u ∈ linesC l, u.oneCell' = true := by
  intro u hu
  obtain ⟨x, _, hu⟩ := List.mem_flatMap.1 hu
  rcases List.mem_cons.1 hu with rfl | hu
  · rfl
  · obtain rfl := List.mem_singleton.1 hu
    rfl
def Lns (W : World) (n0 : Nat) (v : Value) (l : List (List UInt8 × Bool)) : Prop := W.ownsRow n0 70 2 v l.length (linesC l)
theorem lns_nil (W : World) (n0 : Nat) : Lns W n0 (.slice none 0 0) [] := ⟨rfl, .inl ⟨rfl, rfl⟩⟩
/-- Where such a list lies: block g (of none: nowhere). -/
def LnsIn (W : World) (n0 : Nat) (A : Option Addr) (l : List (List UInt8 × Bool)) : Prop := 0 < l.length → ∃ g, A = some ⟨g, 0, none⟩ ∧ n0 ≤ g ∧ g < W.heap.size ∧ ∀ i x, l[i]? = some x → W.cell? ⟨g, i * 2, none⟩ = some (.string ⟨x.1.toArray⟩) ∧ W.cell? ⟨g, i * 2 + 1, none⟩ = some (.bool x.2)
section
variable {W W' : World} {n0 : Nat} {v : Value} {l : List (List UInt8 × Bool)}
theorem Lns.shape (h : Lns W n0 v l) : ∃ A c, v = .slice A l.length c ∧ LnsIn W n0 A l := by
  have hh := h
  rcases h.2 with ⟨rfl, h0⟩ | ⟨g, cap, cur, rfl, hb, hg, _⟩
  · exact ⟨none, 0, by rw [h0], fun hl => by omega⟩
  · refine ⟨_, cap, rfl, fun _ => ⟨g, rfl, hb, (Array.getElem?_eq_some_iff.1 hg).1, fun i x hx => ?_⟩⟩
    have c := fun j u hu => World.ownsRow.cells (g := g) hh rfl j u hu
    simp only [add_zero_, Nat.zero_add] at c
    exact ⟨c _ _ (linesC_get l i x hx).1, c _ _ (linesC_get l i x hx).2⟩
theorem Lns.own (h : Lns W n0 v l) : ∀ g, v.ownBlock = some g → n0 ≤ g ∧ ∃ cs, Has W g 70 cs := by
  intro g hg
  rcases h.2 with ⟨rfl, _⟩ | ⟨g', cap, cur, rfl, hb, hh, r⟩
  · cases hg
  · obtain rfl : g' = g := by simpa [Value.ownBlock] using hg
    exact ⟨hb, cur, hh⟩
theorem Lns.kept (h : Lns W n0 v l) (k : ∀ g, v.ownBlock = some g → W'.heap[g]? = W.heap[g]?) : Lns W' n0 v l := by
  refine ⟨h.1, ?_⟩
  rcases h.2 with h | ⟨g, cap, cur, rfl, hb, hg, r⟩
  · exact .inl h
  · exact .inr ⟨g, cap, cur, rfl, hb, (k g rfl).trans hg, r⟩
theorem Lns.below (h : Lns W n0 v l) (hb : Below W.heap.size W W') : Lns W' n0 v l := h.kept fun g hg => hb.block g (h.own g hg).2.choose_spec.lt
theorem LnsIn.below {A : Option Addr} (h : LnsIn W n0 A l) (hb : Below W.heap.size W W') : LnsIn W' n0 A l := fun hl => by
  obtain ⟨g, rfl, h1, h2, h3⟩ := h hl
  refine ⟨g, rfl, h1, Nat.lt_of_lt_of_le h2 hb.size, fun i x hx => ?_⟩
  exact ⟨(hb.cell (p := ⟨g, i * 2, none⟩) h2).trans (h3 i x hx).1, (hb.cell (p := ⟨g, i * 2 + 1, none⟩) h2).trans (h3 i x hx).2⟩
end
theorem infoLine : (Tryd.prog.info? 70).map (fun i => (i.zero, i.size, i.bytes)) = some (some (.agg #[.string ⟨#[]⟩, .bool false]), 2, 24) := by kernel_rfl
section
variable {w : World} {ops : Array Oper} {rest : List Oper} {o : Oper} {a : Act} {Q : Exit → Act → World → Prop} {n0 : Nat} {v : Value} {l : List (List UInt8 × Bool)}
theorem wpList_append_line (hgd : o.guard = none) (s x : Operand) (ho : o.op = .call { callee := .builtin .append, args := #[s, x], argTypes := #[60, 60] }) (hsv : a.eval s = v) (hv : Lns w n0 v l)
    (k : Nat) (p : List UInt8) (q : Bool) (hxv : a.eval x = .slice (some ⟨k, 0, none⟩) 1 1) (hx : Has w k 70 #[.string ⟨p.toArray⟩, .bool q]) (hs : l.length + 1 ≤ 1099511627776) (hn : n0 ≤ w.heap.size)
    (h : ∀ v' w', Lns w' n0 v' (l ++ [(p, q)]) → w.grownBy w' v.ownBlock → wpList Tryd.prog ops Q rest (a.put o.dst v') w') : wpList Tryd.prog ops Q (o :: rest) a w := by
  obtain ⟨i, hi, hz, hz1, hz2⟩ := info_parts infoLine
  refine wpList_append_own w hgd s x 60 ho n0 70 i _ 2 24 Tryd.underlying60 hi hz hz1 hz2 rfl (by decide) v l.length (linesC l) hsv hv ⟨k, 0, none⟩ 1 1 (linesC [(p, q)]) hxv rfl (fun j u hu => ?_) (linesC_one _) (by simp only [maxLen]; omega) (by omega) hn (fun v' w' h1 h2 _ => h v' w' ?_ h2)
  · rw [add_zero_, Nat.zero_add, hx.cell]
    simpa [linesC] using hu
  · unfold Lns
    rw [List.length_append, List.length_singleton, linesC_append]
    exact h1
end
end Go.Proofs.YthdmmlaahjgijaaDoor
