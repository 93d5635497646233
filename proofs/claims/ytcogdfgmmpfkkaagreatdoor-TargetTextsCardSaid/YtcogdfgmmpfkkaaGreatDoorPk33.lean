import Derived.Test.YtcogdfgmmpfkkaaGreatDoorPk32
namespace Go.Proofs.YtcogdfgmmpfkkaaGreatDoor
open Go.RowKit Go.Shelf
attribute [local go_sem] Oper.semAt_some

/-! ## Pairs -/
theorem Has.tgt {w : World} {A1 A2 : Option Addr} {n1 n2 c1 c2 : Nat} : Has (w.alloc (.cells #[.slice A1 n1 c1, .slice A2 n2 c2] 26)) w.heap.size 26 #[.slice A1 n1 c1, .slice A2 n2 c2] := Has.new _ _ _
set_option maxRecDepth 100000 in
set_option maxHeartbeats 4000000 in
theorem pairsE_any (A1 A2 : Option Addr) (n1 c1 c2 : Nat) (qs : List PairL) (w : World) (hl : qs.length ≤ 900000) (hx : Prs w A2 qs) : Calls Tryz.prog 23 #[.agg #[.slice A1 n1 c1, .slice A2 qs.length c2]] w fun e w' =>
    (∃ b v, e = .returned (.func (.func 44) #[] #[.pointer (some ⟨b, 0, none⟩)]) ∧ PrEnv w' b v qs ∧ w.heap.size ≤ b ∧ (∀ g, v.ownBlock = some g → w.heap.size ≤ g) ∧ b < w'.heap.size) ∧ Below w.heap.size w w' := by
  have hb1 := (Below.refl w.heap.size w).alloc (Nat.le_refl _) (.cells #[.slice A1 n1 c1, .slice A2 qs.length c2] 26)
  have hh := Has.tgt (w := w) (A1 := A1) (A2 := A2) (n1 := n1) (n2 := qs.length) (c1 := c1) (c2 := c2)
  have hx1 := hx.below hb1
  obtain ⟨w1, hw1⟩ : ∃ w1, w.alloc (.cells #[.slice A1 n1 c1, .slice A2 qs.length c2] 26) = w1 := ⟨_, rfl⟩
  rw [hw1] at hb1 hh hx1
  have d1 := hh.cell 1
  have hc := Lib.hid (clonePairs_any A2 c2 qs w1 hx1 hl)
  have hb1' := Lib.hid hb1
  have hz1 := Lib.hid hb1.size
  have hmf : ∀ (fn : Fn) (first cap : Array Value) (w : World), (Instr.makeFunc fn first cap).run Tryz.prog w = .ok (.func fn first cap) w := fun _ _ _ _ => rfl
  clear hh hx1 hx hb1
  go_enter Tryz.func23, Tryz.ntmps23
  go_wp2_with (go_at_call 43; (with_reducible refine Calls.mono hc.out ?_); rintro e w2 ⟨⟨v, rfl, hv⟩, hb2⟩; obtain ⟨A, c, hvs, _⟩ := hv.prs; subst hvs; have hv' := Lib.hid hv; have hb2' := Lib.hid hb2; have hz2 := Lib.hid hb2.size; clear hv hb2)
  go_ret
  have hB := (hb1'.out.trans (hb2'.out.mono hz1.out)).alloc (by have := hz1.out; have := hz2.out; omega) (.cells #[.slice A qs.length c] 24)
  have hrow : PrsO (w2.alloc (.cells #[.slice A qs.length c] 24)) 0 (.slice A qs.length c) qs := by
    have h1 := hv'.out.below ((Below.refl w2.heap.size w2).alloc (Nat.le_refl _) (.cells #[.slice A qs.length c] 24))
    refine ⟨h1.1, ?_⟩
    rcases h1.2 with h | ⟨g, cap, cur, e, _, r⟩
    · exact .inl h
    · exact .inr ⟨g, cap, cur, e, Nat.zero_le _, r⟩
  refine ⟨⟨w2.heap.size, _, rfl, ⟨Has.new _ _ _, hrow⟩, by have := hz1.out; have := hz2.out; omega, fun g e => by have := (hv'.out.own g e).1; have := hz1.out; omega, by simp⟩, hB⟩
theorem pairsT_any (A1 A2 : Option Addr) (c1 c2 : Nat) (t : TgL) (w : World) (ht : FewT t) (hx : Prs w A2 t.2) :
    Calls Tryz.prog 23 #[.agg #[.slice A1 t.1.length c1, .slice A2 t.2.length c2]] w fun e w' => (∃ gf lb, e = .returned (.func (.func gf) #[] lb) ∧ ItQ w' gf lb t.2) ∧ Below w.heap.size w w' := by
  refine (pairsE_any A1 A2 t.1.length c1 c2 t.2 w (by have := ht.pairs; omega) hx).mono ?_
  rintro e w' ⟨⟨b, v, rfl, hE, _, hg, hb⟩, hB⟩
  refine ⟨⟨_, _, rfl, enters_of Tryz.func44 (by kernel_rfl) rfl, fun W S hW hS => ?_⟩, hB⟩
  exact pairs1_seq b v t.2 (by have := ht.pairs; omega) (fun q hq => by have := ht.pair q hq; omega) S W (fun h => by have := (hS b h).1; omega)
    (fun g e h => by
      have h1 := (hS g h).1
      obtain ⟨_, cs, hc⟩ := hE.row.own g e
      have := hc.lt
      omega) (hE.below hW)
end Go.Proofs.YtcogdfgmmpfkkaaGreatDoor
