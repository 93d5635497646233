import Derived.Test.YtcogdfgmmpfkkaaGreatDoorPk20
import Derived.Test.YtcogdfgmmpfkkaaGreatDoorPk23
import Derived.Lib.SliceRun
namespace Go.Proofs.YtcogdfgmmpfkkaaGreatDoor
open Go.RowKit Go.Shelf
attribute [local go_sem] Oper.semAt_some

/-! ## Pairs: a copy, gone over -/
theorem prsC_inv : ∀ (qs : List PairL) (j : Nat) (u : Value), (prsC qs)[j]? = some u → ∃ (i : Nat) (q : PairL), qs[i]? = some q ∧ (j = i * 2 ∧ u = .string ⟨q.1.toArray⟩ ∨ j = i * 2 + 1 ∧ u = .string ⟨q.2.toArray⟩)
  | [], j, u, h => by simp [prsC] at h
  | q :: r, 0, u, h => by
    obtain rfl : Value.string ⟨q.1.toArray⟩ = u := by simpa [prsC] using h
    exact ⟨0, q, rfl, .inl ⟨rfl, rfl⟩⟩
  | q :: r, 1, u, h => by
    obtain rfl : Value.string ⟨q.2.toArray⟩ = u := by simpa [prsC] using h
    exact ⟨0, q, rfl, .inr ⟨rfl, rfl⟩⟩
  | q :: r, j + 2, u, h => by
    have h' : (prsC r)[j]? = some u := h
    obtain ⟨i, x, hx, ⟨rfl, rfl⟩ | ⟨rfl, rfl⟩⟩ := prsC_inv r j u h'
    · exact ⟨i + 1, x, hx, .inl ⟨by omega, rfl⟩⟩
    · exact ⟨i + 1, x, hx, .inr ⟨by omega, rfl⟩⟩
theorem wpList_append_pairs {w : World} {ops : Array Oper} {rest : List Oper} {o : Oper} {a : Act} {Q : Exit → Act → World → Prop} {n0 : Nat} {v : Value} {l : List PairL} (hgd : o.guard = none) (s x : Operand) (ho : o.op = .call { callee := .builtin .append, args := #[s, x], argTypes := #[24, 24] }) (hsv : a.eval s = v) (hv : PrsO w n0 v l)
    (ad : Addr) (c : Nat) (qs : List PairL) (hxv : a.eval x = .slice (some ad) qs.length c) (hx : ∀ (j : Nat) (u : Value), (prsC qs)[j]? = some u → w.cell? (ad.add j) = some u) (hs : l.length + qs.length ≤ 1000000) (hn : n0 ≤ w.heap.size)
    (h : ∀ v' w', PrsO w' n0 v' (l ++ qs) → w.grownBy w' v.ownBlock → wpList Tryz.prog ops Q rest (a.put o.dst v') w') : wpList Tryz.prog ops Q (o :: rest) a w := by
  obtain ⟨i, hi, hz, hz1, hz2⟩ := info_parts infoPair
  have hlen : (prsC qs).length = qs.length * 2 := by
    clear hx hs hxv h
    induction qs with
    | nil => rfl
    | cons q r ih => show (prsC r).length + 1 + 1 = _; rw [ih, List.length_cons]; omega
  refine wpList_append_own_at w hgd s x 24 ho n0 46 i _ 2 32 Tryz.underlying24 hi hz hz1 hz2 rfl (by decide) v l.length (prsC l) hsv hv ad qs.length c (prsC qs) hxv hlen hx (prsC_one _) (by simp only [maxLen]; omega) (by omega) hn (fun v' w' h1 h2 _ _ => h v' w' ?_ h2)
  · unfold PrsO
    rw [List.length_append, prsC_append]
    exact h1
set_option maxRecDepth 100000 in
set_option maxHeartbeats 2000000 in
theorem clonePairs_any (A : Option Addr) (c : Nat) (qs : List PairL) (w : World) (hx : Prs w A qs) (hl : qs.length ≤ 900000) : Calls Tryz.prog 43 #[.slice A qs.length c] w fun e w' => (∃ v, e = .returned v ∧ PrsO w' w.heap.size v qs) ∧ Below w.heap.size w w' := by
  cases A with
  | none =>
    have h0 : qs = [] := by
      rcases Nat.eq_zero_or_pos qs.length with h | h
      · exact List.length_eq_zero_iff.1 h
      · obtain ⟨_, _, e, _⟩ := hx h
        cases e
    subst h0
    have hq : ∀ w : World, (binOp .eql 24 (.slice none 0 c) (.slice none 0 0)).run Tryz.prog w = .ok (.bool true) w := fun w => Lib.run_eql_slice_nil w _ _ none 0 c 0 0 Tryz.underlying24
    clear hx
    go_enter Tryz.func43, Tryz.ntmps43
    go_wp2
    go_ret
    exact ⟨⟨_, rfl, prsO_nil _ _⟩, Below.refl _ _⟩
  | some ad =>
    have hcs' : Hid (∀ (j : Nat) (u : Value), (prsC qs)[j]? = some u → w.cell? (ad.add j) = some u) := Lib.hid (fun j u hu => by
      obtain ⟨i, q, hq, hj⟩ := prsC_inv qs j u hu
      obtain ⟨b, o, e, _, hc⟩ := hx (by have := (List.getElem?_eq_some_iff.1 hq).1; omega)
      injection e with e
      subst e
      rw [add_zero_]
      rcases hj with ⟨rfl, rfl⟩ | ⟨rfl, rfl⟩
      · exact (hc i q hq).1
      · rw [← Nat.add_assoc]
        exact (hc i q hq).2)
    have hq : ∀ w : World, (binOp .eql 24 (.slice (some ad) qs.length c) (.slice none 0 0)).run Tryz.prog w = .ok (.bool false) w := fun w => Lib.run_eql_slice_nil w _ _ (some ad) qs.length c 0 0 Tryz.underlying24
    clear hx
    have hown : PrsO (w.alloc (.cells #[] 46)) w.heap.size (.slice (some ⟨w.heap.size, 0, none⟩) 0 0) [] := World.ownsRow_made w #[] 0 (Nat.le_refl _) (Nat.zero_le _) (by simp)
    have hown' := Lib.hid hown
    clear hown
    go_enter Tryz.func43, Tryz.ntmps43
    go_wp2_with (at_builtin; refine wpList_append_pairs rfl _ _ rfl rfl hown'.out ad c qs rfl (fun j u hu => Lib.cell?_alloc_some _ (hcs'.out j u hu)) (by simp; omega) (by simp) ?_; intro v8 w8 ho8 hg8; have ho8' := Lib.hid ho8; have hg8' := Lib.hid hg8; clear ho8 hg8)
    go_ret
    exact ⟨⟨_, rfl, ho8'.out⟩, ((Below.refl _ w).alloc (Nat.le_refl _) _).grown hg8'.out (by simp) (fun g e => (hown'.out.own g e).1)⟩
/-- What going over them reads. -/
structure PrEnv (W : World) (b : Nat) (v : Value) (qs : List PairL) : Prop where
  box : Has W b 24 #[v]
  row : PrsO W 0 v qs
theorem PrEnv.below {W W' : World} {b : Nat} {v : Value} {qs : List PairL} (h : PrEnv W b v qs) (hb : Below W.heap.size W W') : PrEnv W' b v qs := ⟨h.box.below hb h.box.lt, h.row.below hb⟩
end Go.Proofs.YtcogdfgmmpfkkaaGreatDoor
