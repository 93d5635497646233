import Derived.Test.YtabgpnieekcdhaaDoorHdM
import Derived.WalkKit
import Derived.Deep.Cut
import Derived.WalkSpells
import Derived.WalkLawsBesides
import Derived.Test.YtabgpnieekcdhaaDoorGt
import Derived.Lib.SliceRun
namespace Go.Proofs.YtabgpnieekcdhaaDoor
open Go.RowKit Go.Shelf
attribute [local go_sem] Oper.semAt_some

/-! ## Headers in memory -/
theorem hdsC_inv : ∀ (qs : List PairL) (j : Nat) (u : Value), (prsC qs)[j]? = some u → ∃ (i : Nat) (q : PairL), qs[i]? = some q ∧ (j = i * 2 ∧ u = .string ⟨q.1.toArray⟩ ∨ j = i * 2 + 1 ∧ u = .string ⟨q.2.toArray⟩)
  | [], j, u, h => by simp [prsC] at h
  | q :: r, 0, u, h => by
    obtain rfl : Value.string ⟨q.1.toArray⟩ = u := by simpa [prsC] using h
    exact ⟨0, q, rfl, .inl ⟨rfl, rfl⟩⟩
  | q :: r, 1, u, h => by
    obtain rfl : Value.string ⟨q.2.toArray⟩ = u := by simpa [prsC] using h
    exact ⟨0, q, rfl, .inr ⟨rfl, rfl⟩⟩
  | q :: r, j + 2, u, h => by
    have h' : (prsC r)[j]? = some u := h
    obtain ⟨i, x, hx, ⟨rfl, rfl⟩ | ⟨rfl, rfl⟩⟩ := hdsC_inv r j u h'
    · exact ⟨i + 1, x, hx, .inl ⟨by omega, rfl⟩⟩
    · exact ⟨i + 1, x, hx, .inr ⟨by omega, rfl⟩⟩
def HdsO (W : World) (n0 : Nat) (v : Value) (l : List PairL) : Prop := W.ownsRow n0 69 2 v l.length (prsC l)
theorem hdsO_nil (W : World) (n0 : Nat) : HdsO W n0 (.slice none 0 0) [] := ⟨rfl, .inl ⟨rfl, rfl⟩⟩
section
variable {W W' : World} {n0 : Nat} {v : Value} {l : List PairL}
theorem HdsO.prs (h : HdsO W n0 v l) : ∃ A c, v = .slice A l.length c ∧ Prs W A l := by
  have hh := h
  rcases h.2 with ⟨rfl, h0⟩ | ⟨g, cap, cur, rfl, hb, hg, _⟩
  · exact ⟨none, 0, by rw [h0], fun hl => by omega⟩
  · refine ⟨_, cap, rfl, fun _ => ⟨g, 0, rfl, (Array.getElem?_eq_some_iff.1 hg).1, fun i x hx => ?_⟩⟩
    have c := fun j u hu => World.ownsRow.cells (g := g) hh rfl j u hu
    simp only [add_zero_] at c
    obtain ⟨h1, h2⟩ := prsC_get l i x hx
    exact ⟨c _ _ h1, by have := c _ _ h2; rwa [← Nat.add_assoc] at this⟩
theorem HdsO.own (h : HdsO W n0 v l) : ∀ g, v.ownBlock = some g → n0 ≤ g ∧ ∃ cs, Has W g 69 cs := by
  intro g hg
  rcases h.2 with ⟨rfl, _⟩ | ⟨g', cap, cur, rfl, hb, hh, r⟩
  · cases hg
  · obtain rfl : g' = g := by simpa [Value.ownBlock] using hg
    exact ⟨hb, cur, hh⟩
theorem HdsO.kept (h : HdsO W n0 v l) (k : ∀ g, v.ownBlock = some g → W'.heap[g]? = W.heap[g]?) : HdsO W' n0 v l := by
  refine ⟨h.1, ?_⟩
  rcases h.2 with h | ⟨g, cap, cur, rfl, hb, hg, r⟩
  · exact .inl h
  · exact .inr ⟨g, cap, cur, rfl, hb, (k g rfl).trans hg, r⟩
theorem HdsO.below (h : HdsO W n0 v l) (hb : Below W.heap.size W W') : HdsO W' n0 v l := h.kept fun g hg => hb.block g (h.own g hg).2.choose_spec.lt
theorem HdsO.grew {g : Nat} (h : HdsO W n0 v l) (hb : Grew g W W') (hg : g < n0) : HdsO W' n0 v l :=
  h.kept fun k e => by
    obtain ⟨h1, _, h2⟩ := h.own k e
    exact hb.block k h2.lt (by omega)
end
theorem infoHdr : (Tryd.prog.info? 69).map (fun i => (i.zero, i.size, i.bytes)) = some (some (.agg #[.string ⟨#[]⟩, .string ⟨#[]⟩]), 2, 32) := by kernel_rfl
theorem wpList_append_hdr {w : World} {ops : Array Oper} {rest : List Oper} {o : Oper} {a : Act} {Q : Exit → Act → World → Prop} {n0 : Nat} {v : Value} {l : List PairL} (hgd : o.guard = none) (s x : Operand) (ho : o.op = .call { callee := .builtin .append, args := #[s, x], argTypes := #[51, 51] }) (hsv : a.eval s = v) (hv : HdsO w n0 v l)
    (k : Nat) (q : PairL) (hxv : a.eval x = .slice (some ⟨k, 0, none⟩) 1 1) (hx : Has w k 69 #[.string ⟨q.1.toArray⟩, .string ⟨q.2.toArray⟩]) (hs : l.length + 1 ≤ 1000000) (hn : n0 ≤ w.heap.size)
    (h : ∀ v' w', HdsO w' n0 v' (l ++ [q]) → w.grownBy w' v.ownBlock → wpList Tryd.prog ops Q rest (a.put o.dst v') w') : wpList Tryd.prog ops Q (o :: rest) a w := by
  obtain ⟨i, hi, hz, hz1, hz2⟩ := info_parts infoHdr
  refine wpList_append_own_at w hgd s x 51 ho n0 69 i _ 2 32 Tryd.underlying51 hi hz hz1 hz2 rfl (by decide) v l.length (prsC l) hsv hv ⟨k, 0, none⟩ 1 1 (prsC [q]) hxv rfl (fun j u hu => ?_) (prsC_one _) (by simp only [maxLen]; omega) (by omega) hn (fun v' w' h1 h2 _ _ => h v' w' ?_ h2)
  · rw [add_zero_, Nat.zero_add, hx.cell]
    simpa [prsC] using hu
  · unfold HdsO
    rw [List.length_append, List.length_singleton, prsC_append]
    exact h1
theorem wpList_append_hdrs {w : World} {ops : Array Oper} {rest : List Oper} {o : Oper} {a : Act} {Q : Exit → Act → World → Prop} {n0 : Nat} {v : Value} {l : List PairL} (hgd : o.guard = none) (s x : Operand) (ho : o.op = .call { callee := .builtin .append, args := #[s, x], argTypes := #[51, 51] }) (hsv : a.eval s = v) (hv : HdsO w n0 v l)
    (ad : Addr) (c : Nat) (qs : List PairL) (hxv : a.eval x = .slice (some ad) qs.length c) (hx : ∀ (j : Nat) (u : Value), (prsC qs)[j]? = some u → w.cell? (ad.add j) = some u) (hs : l.length + qs.length ≤ 1000000) (hn : n0 ≤ w.heap.size)
    (h : ∀ v' w', HdsO w' n0 v' (l ++ qs) → w.grownBy w' v.ownBlock → wpList Tryd.prog ops Q rest (a.put o.dst v') w') : wpList Tryd.prog ops Q (o :: rest) a w := by
  obtain ⟨i, hi, hz, hz1, hz2⟩ := info_parts infoHdr
  have hlen : (prsC qs).length = qs.length * 2 := by
    clear hx hs hxv h
    induction qs with
    | nil => rfl
    | cons q r ih => show (prsC r).length + 1 + 1 = _; rw [ih, List.length_cons]; omega
  refine wpList_append_own_at w hgd s x 51 ho n0 69 i _ 2 32 Tryd.underlying51 hi hz hz1 hz2 rfl (by decide) v l.length (prsC l) hsv hv ad qs.length c (prsC qs) hxv hlen hx (prsC_one _) (by simp only [maxLen]; omega) (by omega) hn (fun v' w' h1 h2 _ _ => h v' w' ?_ h2)
  · unfold HdsO
    rw [List.length_append, prsC_append]
    exact h1
end Go.Proofs.YtabgpnieekcdhaaDoor
