import Derived.Test.YtabgpnieekcdhaaDoorAnA
import Derived.Test.YtabgpnieekcdhaaDoorRrB
namespace Go.Proofs.YtabgpnieekcdhaaDoor
open Go.RowKit Go.Shelf
attribute [local go_sem] Oper.semAt_some

/-! ## An answer under way -/
theorem HdsO.set {W : World} {n0 k : Nat} {v : Value} {l : List PairL} (h : HdsO W n0 v l) (hk : k < n0) (i : Nat) (u : Value) : HdsO (W.setCell ⟨k, i, none⟩ u) n0 v l :=
  h.kept fun g e => Below.heap_setCell _ _ _ g (fun e' => by have := (h.own g e).1; simp only at e'; omega)
theorem fieldH_any (a b : ByteArray) (w : World) : Calls Tryd.prog 41 #[.string a, .string b] w fun e w' => e = .returned (.agg #[.string a, .string b]) ∧ Below w.heap.size w w' := by
  obtain ⟨n, hn⟩ : ∃ n, w.heap.size = n := ⟨_, rfl⟩
  obtain ⟨w1, hw1⟩ : ∃ w1, w.alloc (.cells #[.string a, .string b] 69) = w1 := ⟨_, rfl⟩
  have z : Has w1 n 69 #[.string a, .string b] := by rw [← hw1, ← hn]; exact Has.new _ _ _
  have y0 := z.cell 0
  have y1 := z.cell 1
  have hB := Lib.hid (show Below w.heap.size w w1 by rw [← hw1]; exact (Below.refl _ _).alloc (Nat.le_refl _) _)
  simp at y0 y1
  clear z
  go_enter Tryd.func41, Tryd.ntmps41
  go_wp2
  refine bodyPost_ret (v := .agg #[.string a, .string b]) (by simp [results, Tryd.results41, go_sem, y0, y1]) rfl ?_
  exact ⟨rfl, hB.out⟩
theorem digits_any (x : Nat) (hx : x < 9223372036854775808) (w : World) (hT : Tab w) : Calls Tryd.prog 30 #[.int .i64 (x : Int)] w (StrR (An.dec x) w) := by
  unfold StrR
  have ht := Lib.hid (fun W (hW : Tab W) => textCall_any x (by omega) W hW)
  have hw : IntKind.u64.wrap (x : Int) = (x : Int) := by rw [IntKind.wrap_u64]; omega
  have hT' := Lib.hid hT
  clear hT
  go_enter Tryd.func30, Tryd.ntmps30
  go_wp2_with (go_at_call 45; (with_reducible refine Calls.mono (ht.out _ hT'.out) ?_); rintro e w2 ⟨⟨K, hK, rfl⟩, hb2⟩; have hK' := Lib.hid hK; have hb2' := Lib.hid hb2; clear hK hb2)
  go_ret
  exact ⟨(by rw [An.dec_of hK'.out] : Ending.returned (.string ⟨(txt 10 x K).toArray⟩) = .returned (.string ⟨(An.dec x).toArray⟩)), hb2'.out⟩
/-- An answer under way: its block, its head, what stands behind. -/
def UnB (W : World) (u : Nat) (f : List UInt8) (l : List PairL) (body : ByteArray) : Prop := ∃ v, Has W u 83 #[.string ⟨f.toArray⟩, v, .string body] ∧ HdsO W (u + 1) v l
theorem UnB.below {W W' : World} {u : Nat} {f : List UInt8} {l : List PairL} {body : ByteArray} (h : UnB W u f l body) (hb : Below W.heap.size W W') : UnB W' u f l body := by
  obtain ⟨v, h1, h2⟩ := h
  exact ⟨v, h1.below hb h1.lt, h2.below hb⟩
theorem UnB.lt {W : World} {u : Nat} {f : List UInt8} {l : List PairL} {body : ByteArray} (h : UnB W u f l body) : u < W.heap.size := by
  obtain ⟨v, h1, -⟩ := h
  exact h1.lt
set_option maxRecDepth 100000 in
set_option maxHeartbeats 4000000 in
theorem put_any (u k c : Nat) (f : List UInt8) (l qs : List PairL) (body : ByteArray) (cs : Array Value) (w : World) (hU : UnB w u f l body) (hk : Has w k 69 cs) (hc : ∀ (j : Nat) (x : Value), (prsC qs)[j]? = some x → cs[j]? = some x) (hl : l.length + qs.length ≤ 1000000) :
    Calls Tryd.prog 40 #[.pointer (some ⟨u, 0, none⟩), .slice (some ⟨k, 0, none⟩) qs.length c] w fun e w' => e = .returned (.tuple #[]) ∧ UnB w' u f (l ++ qs) body ∧ Below u w w' := by
  obtain ⟨v, h1, h2⟩ := hU
  obtain ⟨A, ca, rfl, -⟩ := h2.prs
  have c1 := h1.cell 1
  have hlt := h1.lt
  have hne : 83 ≠ 69 := by decide
  have h1' := Lib.hid h1
  have h2' := Lib.hid h2
  have hk' := Lib.hid hk
  have hc' := Lib.hid hc
  have hlt' := Lib.hid hlt
  clear h1 h2 hk hc hlt
  go_enter Tryd.func40, Tryd.ntmps40
  go_wp2_with (at_builtin; refine wpList_append_hdrs rfl _ _ rfl rfl h2'.out ⟨k, 0, none⟩ c qs rfl (fun j x hx => by rw [add_zero_, Nat.zero_add, hk'.out.cell]; exact hc'.out j x hx) hl (by have := hlt'.out; omega) ?_; intro v8 w8 ho8 hg8; obtain ⟨A8, c8, e8, -⟩ := ho8.prs; subst e8; have hz8 : Has w8 u 83 _ := (hg8.block u hlt'.out (fun e => by obtain ⟨_, cs', hcs⟩ := h2'.out.own u e.symm; have := Option.some.inj ((show w.heap[u]? = _ from hcs).symm.trans h1'.out); injection this with _ hh _; exact hne hh.symm)).trans h1'.out; have d1 := hz8.cell 1; have f1 := hz8.free 1; have hz8' := Lib.hid hz8; have ho8' := Lib.hid ho8; have hg8' := Lib.hid hg8; clear hz8 ho8 hg8)
  go_end0
  have hB : Below u w w8 := (Below.refl u w).grown hg8'.out (by have := hlt'.out; omega) (fun g e => by have := (h2'.out.own g e).1; omega)
  refine ⟨rfl, ⟨.slice A8 (l ++ qs).length c8, ?_, ho8'.out.kept (fun g e => Below.heap_setCell _ _ _ g (fun e' => ?_))⟩, hB.setCell (p := ⟨u, 1, none⟩) (Nat.le_refl u) _⟩
  · have := hz8'.out.put 1 (.slice A8 (l ++ qs).length c8)
    simpa using this
  · have := (ho8'.out.own g e).1
    simp only at e'
    omega
end Go.Proofs.YtabgpnieekcdhaaDoor
