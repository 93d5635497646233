import Derived.Test.YtabgpnieekcdhaaDoorL
import Derived.Test.YtabgpnieekcdhaaDoorProg
import Derived.Maps.AppendAt
import Derived.OwnWalk
namespace Go.Proofs.YtabgpnieekcdhaaDoor
open Go.RowKit

/-! ## Texts in memory: a list of them, made by the call itself -/
def strsC (l : List (List UInt8)) : List Value := l.map fun t => .string ⟨t.toArray⟩
theorem strsC_one (l : List (List UInt8)) : ∀ u ∈ strsC l, u.oneCell' = true := by
  intro u hu
  obtain ⟨x, _, rfl⟩ := List.mem_map.1 hu
  rfl
def Strs (W : World) (n0 : Nat) (v : Value) (l : List (List UInt8)) : Prop := W.ownsRow n0 9 1 v l.length (strsC l)
theorem strs_nil (W : World) (n0 : Nat) : Strs W n0 (.slice none 0 0) [] := ⟨rfl, .inl ⟨rfl, rfl⟩⟩
/-- Where such a list lies: block g, whose cells are cur (of none: nowhere). -/
def StrsIn (W : World) (n0 : Nat) (A : Option Addr) (g : Nat) (cur : Array Value) (l : List (List UInt8)) : Prop :=
  (0 < l.length → A = some ⟨g, 0, none⟩ ∧ n0 ≤ g ∧ Has W g 9 cur) ∧ ∀ (i : Nat) (x : List UInt8), l[i]? = some x → cur[i]? = some (Value.string ⟨x.toArray⟩)
section
variable {W W' : World} {n0 : Nat} {v : Value} {l : List (List UInt8)}
theorem Strs.shape (h : Strs W n0 v l) : ∃ A g c cur, v = .slice A l.length c ∧ StrsIn W n0 A g cur l := by
  have hh := h
  rcases h.2 with ⟨rfl, h0⟩ | ⟨g, cap, cur, rfl, hb, hg, _⟩
  · exact ⟨none, 0, 0, #[], by rw [h0], fun hl => by omega, fun i x hx => by have := (List.getElem?_eq_some_iff.1 hx).1; omega⟩
  · refine ⟨_, g, cap, cur, rfl, fun _ => ⟨rfl, hb, hg⟩, fun i x hx => ?_⟩
    have c := World.ownsRow.cells (g := g) hh rfl i (.string ⟨x.toArray⟩) (by unfold strsC; rw [List.getElem?_map, hx]; rfl)
    rw [show (⟨g, 0, none⟩ : Addr).add i = ⟨g, i, none⟩ from by unfold Addr.add; split <;> simp_all] at c
    rw [Has.cell (show Has W g 9 cur from hg)] at c
    exact c
theorem Strs.own (h : Strs W n0 v l) : ∀ g, v.ownBlock = some g → n0 ≤ g ∧ ∃ cs, Has W g 9 cs := by
  intro g hg
  rcases h.2 with ⟨rfl, _⟩ | ⟨g', cap, cur, rfl, hb, hh, r⟩
  · cases hg
  · obtain rfl : g' = g := by simpa [Value.ownBlock] using hg
    exact ⟨hb, cur, hh⟩
theorem Strs.below (h : Strs W n0 v l) (hb : Below W.heap.size W W') : Strs W' n0 v l := by
  refine ⟨h.1, ?_⟩
  rcases h.2 with h | ⟨g, cap, cur, rfl, hb', hg, r⟩
  · exact .inl h
  · exact .inr ⟨g, cap, cur, rfl, hb', (hb.block g (Array.getElem?_eq_some_iff.1 hg).1).trans hg, r⟩
theorem Strs.mono (h : Strs W n0 v l) {n1 : Nat} (hn : n1 ≤ n0) : Strs W n1 v l := by
  refine ⟨h.1, ?_⟩
  rcases h.2 with h | ⟨g, cap, cur, rfl, hb', r⟩
  · exact .inl h
  · exact .inr ⟨g, cap, cur, rfl, by omega, r⟩
end
theorem infoStr : (Tryd.prog.info? 9).map (fun i => (i.zero, i.size, i.bytes)) = some (some (.string ⟨#[]⟩), 1, 16) := by kernel_rfl
theorem info_str : ∃ i, Tryd.prog.info? 9 = some i ∧ i.zero = some (.string ⟨#[]⟩) ∧ i.size = 1 ∧ i.bytes = 16 := by
  have h := infoStr
  cases hi : Tryd.prog.info? 9 with
  | none => rw [hi] at h; cases h
  | some i =>
    rw [hi] at h
    simp at h
    exact ⟨i, rfl, h⟩
section
variable {w : World} {ops : Array Oper} {rest : List Oper} {o : Oper} {a : Act} {Q : Exit → Act → World → Prop} {n0 : Nat} {v : Value} {l : List (List UInt8)}
theorem wpList_append_str (hgd : o.guard = none) (s x : Operand) (ho : o.op = .call { callee := .builtin .append, args := #[s, x], argTypes := #[42, 42] }) (hsv : a.eval s = v) (hv : Strs w n0 v l)
    (k : Nat) (t : List UInt8) (hxv : a.eval x = .slice (some ⟨k, 0, none⟩) 1 1) (hx : Has w k 9 #[.string ⟨t.toArray⟩]) (hs : l.length + 1 ≤ 1000000) (hn : n0 ≤ w.heap.size)
    (h : ∀ v' w', Strs w' n0 v' (l ++ [t]) → w.grownBy w' v.ownBlock → wpList Tryd.prog ops Q rest (a.put o.dst v') w') : wpList Tryd.prog ops Q (o :: rest) a w := by
  obtain ⟨i, hi, hz, hz1, hz2⟩ := info_str
  refine wpList_append_own_at w hgd s x 42 ho n0 9 i (.string ⟨#[]⟩) 1 16 Tryd.underlying42 hi hz hz1 hz2 rfl (by decide) v l.length (strsC l) hsv hv ⟨k, 0, none⟩ 1 1 [.string ⟨t.toArray⟩] hxv rfl (fun j u hu => ?_) (by intro u hu; rw [List.mem_singleton.1 hu]; rfl) (by simp only [maxLen]; omega) (by omega) hn (fun v' w' h1 h2 _ _ => h v' w' ?_ h2)
  · have hj : j = 0 := by
      have := (List.getElem?_eq_some_iff.1 hu).1
      simp at this
      omega
    subst hj
    have e : (⟨k, 0, none⟩ : Addr).add 0 = ⟨k, 0, none⟩ := by unfold Addr.add; split <;> simp_all
    rw [e, hx.cell]
    simpa using hu
  · unfold Strs
    rw [List.length_append, List.length_singleton, show strsC (l ++ [t]) = strsC l ++ [.string ⟨t.toArray⟩] by simp [strsC]]
    exact h1
end
theorem grown_str {X Y : World} {v : Value} {l : List (List UInt8)} {n0 k : Nat} {t : TypeId} {cs : Array Value} (h : Has X k t cs) (hf : Strs X n0 v l) (hg : X.grownBy Y v.ownBlock) (ht : t ≠ 9) : Has Y k t cs :=
  (hg.block k h.lt (fun e => by
    obtain ⟨_, cs', hc⟩ := hf.own k e.symm
    have : Obj.cells cs t (0, 0) = .cells cs' 9 (0, 0) := by
      have e1 : X.heap[k]? = some (.cells cs t (0, 0)) := h
      have e2 : X.heap[k]? = some (.cells cs' 9 (0, 0)) := hc
      rw [e1] at e2
      exact Option.some.inj e2
    injection this with _ h2 _
    exact ht h2)).trans h
/-- Texts in a row. -/
def SL (W : World) (A : Option Addr) (ls : List (List UInt8)) : Prop := ∃ (g : Nat) (cs : Array Value), (0 < ls.length → A = some ⟨g, 0, none⟩ ∧ Has W g 9 cs) ∧ ∀ (j : Nat) (y : List UInt8), ls[j]? = some y → cs[j]? = some (Value.string ⟨y.toArray⟩)
theorem SL.below {W W' : World} {A : Option Addr} {ls : List (List UInt8)} (h : SL W A ls) (hb : Below W.heap.size W W') : SL W' A ls := by
  obtain ⟨g, cs, h1, h2⟩ := h
  exact ⟨g, cs, fun h0 => ⟨(h1 h0).1, (h1 h0).2.below hb (h1 h0).2.lt⟩, h2⟩
theorem Strs.sl {W : World} {n0 : Nat} {v : Value} {ls : List (List UInt8)} (h : Strs W n0 v ls) : ∃ A c, v = .slice A ls.length c ∧ SL W A ls := by
  obtain ⟨A, g, c, cur, rfl, h1, h2⟩ := h.shape
  exact ⟨A, c, rfl, g, cur, fun h0 => ⟨(h1 h0).1, (h1 h0).2.2⟩, h2⟩
/-- The same, where there is one at least. -/
theorem SL.some {W : World} {A : Option Addr} {ls : List (List UInt8)} (h : SL W A ls) (h0 : 0 < ls.length) : ∃ (g : Nat) (cs : Array Value), A = some ⟨g, 0, none⟩ ∧ Has W g 9 cs ∧ ∀ (j : Nat) (y : List UInt8), ls[j]? = some y → cs[j]? = some (Value.string ⟨y.toArray⟩) := by
  obtain ⟨g, cs, h1, h2⟩ := h
  exact ⟨g, cs, (h1 h0).1, (h1 h0).2, h2⟩
def StrsR (ls : List (List UInt8)) (w : World) (e : Ending) (w' : World) : Prop := ∃ v, e = .returned v ∧ Strs w' w.heap.size v ls ∧ Below w.heap.size w w'
theorem take_next {α : Type} (ls : List α) {j : Nat} (hj : j < ls.length) : ls.take (j + 1) = ls.take j ++ [ls[j]] := List.take_succ_eq_append_getElem hj
end Go.Proofs.YtabgpnieekcdhaaDoor
