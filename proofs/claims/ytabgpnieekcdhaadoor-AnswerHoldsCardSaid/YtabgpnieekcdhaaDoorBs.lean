import Derived.Test.YtabgpnieekcdhaaDoorW
import Derived.Test.YtabgpnieekcdhaaDoorProg
import Derived.Lib.AppendStr
import Derived.Lib.BufferWrite
import Derived.Deep.RegionLaw
namespace Go.Proofs.YtabgpnieekcdhaaDoor
open Go.RowKit

/-! ## Bytes of the call's own, or nil (of no layer) -/
theorem byE (l : List UInt8) (j : Nat) (h : j < l.length) : (⟨l.toArray⟩ : ByteArray)[j]'h = l[j] := rfl
theorem cut_str (s : List UInt8) (j k : Nat) : (⟨s.toArray⟩ : ByteArray).extract j k = ⟨((s.take k).drop j).toArray⟩ := by
  apply ByteArray.ext
  rw [ByteArray.data_extract]
  simp [List.drop_take]
theorem exE1 (l : List UInt8) (a b : Nat) : (⟨l.toArray⟩ : ByteArray).extract a b = ⟨((l.drop a).take (b - a)).toArray⟩ := by
  rw [cut_str, List.drop_take]
theorem take_next {α : Type} (ls : List α) {j : Nat} (hj : j < ls.length) : ls.take (j + 1) = ls.take j ++ [ls[j]] := List.take_succ_eq_append_getElem hj
theorem drop_at (s : List UInt8) {i : Nat} (h : i < s.length) : s.drop i = s[i] :: s.drop (i + 1) := List.drop_eq_getElem_cons h
theorem app_str (a b : List UInt8) : (⟨a.toArray⟩ : ByteArray) ++ ⟨b.toArray⟩ = ⟨(a ++ b).toArray⟩ := by
  apply ByteArray.ext
  rw [ByteArray.data_append]
  simp
def StrR (s : List UInt8) (w : World) (e : Ending) (w' : World) : Prop := e = .returned (.string ⟨s.toArray⟩) ∧ Below w.heap.size w w'
def BoolR (b : Bool) (w : World) (e : Ending) (w' : World) : Prop := e = .returned (.bool b) ∧ Below w.heap.size w w'
def Bs (W : World) (n0 : Nat) (v : Value) (l : List UInt8) : Prop := W.ownsRow n0 5 1 v l.length (byts l)
theorem bs_nil (W : World) (n0 : Nat) : Bs W n0 (.slice none 0 0) [] := ⟨rfl, .inl ⟨rfl, rfl⟩⟩
section
variable {W W' : World} {n0 : Nat} {v : Value} {l : List UInt8}
theorem Bs.shape (h : Bs W n0 v l) : ∃ A c, v = .slice A l.length c ∧ Rd W (fun b => n0 ≤ b ∧ b < W.heap.size) A l := by
  have hh := h
  rcases h.2 with ⟨rfl, h0⟩ | ⟨g, cap, cur, rfl, hb, hg, _⟩
  · refine ⟨none, 0, by rw [h0], fun hl => by omega⟩
  · exact ⟨_, cap, rfl, fun _ => ⟨_, rfl, ⟨hb, (Array.getElem?_eq_some_iff.1 hg).1⟩, fun j u hu => World.ownsRow.cells (g := g) hh rfl j u hu⟩⟩
theorem Bs.kept (h : Bs W n0 v l) (k : ∀ g, v.ownBlock = some g → W'.heap[g]? = W.heap[g]?) : Bs W' n0 v l := by
  refine ⟨h.1, ?_⟩
  rcases h.2 with h | ⟨g, cap, cur, rfl, hb, hg, r⟩
  · exact .inl h
  · exact .inr ⟨g, cap, cur, rfl, hb, (k g rfl).trans hg, r⟩
theorem Bs.own (h : Bs W n0 v l) : ∀ g, v.ownBlock = some g → n0 ≤ g ∧ ∃ cs, Has W g 5 cs := by
  intro g hg
  rcases h.2 with ⟨rfl, _⟩ | ⟨g', cap, cur, rfl, hb, hh, r⟩
  · cases hg
  · obtain rfl : g' = g := by simpa [Value.ownBlock] using hg
    exact ⟨hb, cur, hh⟩
theorem Bs.below (h : Bs W n0 v l) (hb : Below W.heap.size W W') : Bs W' n0 v l := h.kept fun g hg => hb.block g (h.own g hg).2.choose_spec.lt
theorem Bs.mono (h : Bs W n0 v l) {n1 : Nat} (hn : n1 ≤ n0) : Bs W n1 v l := by
  refine ⟨h.1, ?_⟩
  rcases h.2 with h | ⟨g, cap, cur, rfl, hb, r⟩
  · exact .inl h
  · exact .inr ⟨g, cap, cur, rfl, Nat.le_trans hn hb, r⟩
end
theorem infoB : (Tryd.prog.info? 5).map (fun i => (i.zero, i.size, i.bytes)) = some (some (.int .u8 0), 1, 1) := by kernel_rfl
theorem info1 : (Tryd.prog.info? 5).map (·.size) = some 1 := by kernel_rfl
/-- append of bytes that are read somewhere. -/
theorem run_append_rd {w : World} {n0 : Nat} {v : Value} {l : List UInt8} (hv : Bs w n0 v l) (S : Nat → Prop) (A : Option Addr) (x : List UInt8) (c : Nat) (hx : Rd w S A x) (hs : l.length + x.length ≤ 140737488355328) (hn : n0 ≤ w.heap.size) (ty : TypeId) :
    ∃ v' w', (Builtin.append_ #[26, 26] ty #[v, .slice A x.length c]).run Tryd.prog w = .ok v' w' ∧ Bs w' n0 v' (l ++ x) ∧ w.grownBy w' v.ownBlock := by
  obtain ⟨i, hi, hz, hz1, hz2⟩ := info_parts infoB
  have nothing : x = [] → ∃ v' w', (Builtin.append_ #[26, 26] ty #[v, .slice A x.length c]).run Tryd.prog w = .ok v' w' ∧ Bs w' n0 v' (l ++ x) ∧ w.grownBy w' v.ownBlock := by
    rintro rfl
    have hl : Bs w n0 v (l ++ []) := by rw [List.append_nil]; exact hv
    have hg : w.grownBy w v.ownBlock := ⟨rfl, rfl, rfl, Nat.le_refl _, fun _ _ _ => rfl⟩
    rcases hv.2 with ⟨rfl, h0⟩ | ⟨g, cap, cur, rfl, hb, hh, hnc, hcm, _⟩
    · refine ⟨_, w, ?_, hl, hg⟩
      cases A <;> simp [Builtin.append_, run_underlying Tryd.underlying26, sizeOf, typeInfo, hi, Builtin.lenOf, Builtin.firstCells]
      all_goals
        have h0 := run_loadCells_list (P := Tryd.prog) w ‹Addr› [] (by simp)
        simp only [List.length_nil] at h0
        simp [h0]
    · refine ⟨_, w, ?_, hl, hg⟩
      cases A <;> simp [Builtin.append_, run_underlying Tryd.underlying26, sizeOf, typeInfo, hi, Builtin.lenOf, Builtin.firstCells, hnc, storeCells]
      all_goals
        have h0 := run_loadCells_list (P := Tryd.prog) w ‹Addr› [] (by simp)
        simp only [List.length_nil] at h0
        simp [h0, storeCells]
  rcases Nat.eq_zero_or_pos x.length with h0 | h0
  · exact nothing (List.eq_nil_of_length_eq_zero h0)
  · obtain ⟨ad, rfl, _, hc⟩ := hx h0
    obtain ⟨v', w', hrun, h2, h3, _, _⟩ := run_append_own_at (P := Tryd.prog) w n0 26 ty 5 i (.int .u8 0) 1 1 Tryd.underlying26 hi hz hz1 hz2 rfl (by decide) v l.length (byts l) hv ad x.length c (byts x) (by simp [byts_length]) hc (byts_one x) (by simp only [maxLen]; omega) (by omega) hn
    refine ⟨v', w', hrun, ?_, h3⟩
    unfold Bs
    rw [List.length_append, byts_append]
    exact h2
/-- append of a text's bytes. -/
theorem run_append_text {w : World} {n0 : Nat} {v : Value} {l : List UInt8} (hv : Bs w n0 v l) (s : ByteArray) (hs : l.length + s.size ≤ 140737488355328) (hn : n0 ≤ w.heap.size) (ty : TypeId) :
    ∃ v' w', (Builtin.append_ #[26, 9] ty #[v, .string s]).run Tryd.prog w = .ok v' w' ∧ Bs w' n0 v' (l ++ s.data.toList) ∧ w.grownBy w' v.ownBlock := by
  obtain ⟨i, hi, hz, hz1, hz2⟩ := info_parts infoB
  obtain ⟨v', w', hrun, h2, h3, _⟩ := Lib.run_append_own_string (P := Tryd.prog) w n0 26 9 ty 5 i Tryd.underlying26 Tryd.underlying9 hi hz hz1 hz2 v l.length (byts l) hv s (by simp only [maxLen]; omega) hs hn
  refine ⟨v', w', hrun, ?_, h3⟩
  unfold Bs
  have e : s.size = s.data.toList.length := by simp only [Array.length_toList]; rfl
  rw [List.length_append, byts_append, ← e]
  exact h2
section
variable {w : World} {ops : Array Oper} {rest : List Oper} {o : Oper} {a : Act} {Q : Exit → Act → World → Prop} {n0 : Nat} {v : Value} {l : List UInt8}
theorem wpList_append_rd (hgd : o.guard = none) (s x : Operand) (ho : o.op = .call { callee := .builtin .append, args := #[s, x], argTypes := #[26, 26] }) (hsv : a.eval s = v) (hv : Bs w n0 v l)
    (S : Nat → Prop) (A : Option Addr) (y : List UInt8) (m c : Nat) (hm : m = y.length) (hxv : a.eval x = .slice A m c) (hx : Rd w S A y) (hs : l.length + y.length ≤ 140737488355328) (hn : n0 ≤ w.heap.size)
    (h : ∀ v' w', Bs w' n0 v' (l ++ y) → w.grownBy w' v.ownBlock → wpList Tryd.prog ops Q rest (a.put o.dst v') w') : wpList Tryd.prog ops Q (o :: rest) a w := by
  subst hm
  refine wpList_plain hgd fun K hK => ?_
  obtain ⟨v', w', hrun, h2, h3⟩ := run_append_rd hv S A y c hx hs hn o.type
  unfold Oper.wp execOp
  simp only [ho, resolve, invoke, builtin, Sem.run_bind, Sem.run_pure, Result.andThen_ok, List.map_toArray, List.map_cons, List.map_nil, hsv, hxv, hrun]
  exact hK _ _ (h v' w' h2 h3)
theorem wpList_append_text (hgd : o.guard = none) (s x : Operand) (ho : o.op = .call { callee := .builtin .append, args := #[s, x], argTypes := #[26, 9] }) (hsv : a.eval s = v) (hv : Bs w n0 v l)
    (t : ByteArray) (hxv : a.eval x = .string t) (hs : l.length + t.size ≤ 140737488355328) (hn : n0 ≤ w.heap.size)
    (h : ∀ v' w', Bs w' n0 v' (l ++ t.data.toList) → w.grownBy w' v.ownBlock → wpList Tryd.prog ops Q rest (a.put o.dst v') w') : wpList Tryd.prog ops Q (o :: rest) a w := by
  refine wpList_plain hgd fun K hK => ?_
  obtain ⟨v', w', hrun, h2, h3⟩ := run_append_text hv t hs hn o.type
  unfold Oper.wp execOp
  simp only [ho, resolve, invoke, builtin, Sem.run_bind, Sem.run_pure, Result.andThen_ok, List.map_toArray, List.map_cons, List.map_nil, hsv, hxv, hrun]
  exact hK _ _ (h v' w' h2 h3)
end
section
variable {w : World} {ops : Array Oper} {o : Oper} {a : Act} {Q : Exit → Act → World → Prop} {n0 : Nat} {v : Value} {l : List UInt8}
theorem step_append_rd {K : Act → World → Prop} {E : Prop} (hgd : o.guard = none) (s x : Operand) (ho : o.op = .call { callee := .builtin .append, args := #[s, x], argTypes := #[26, 26] }) (hsv : a.eval s = v) (hv : Bs w n0 v l)
    (S : Nat → Prop) (A : Option Addr) (y : List UInt8) (m c : Nat) (hm : m = y.length) (hxv : a.eval x = .slice A m c) (hx : Rd w S A y) (hs : l.length + y.length ≤ 140737488355328) (hn : n0 ≤ w.heap.size)
    (h : ∀ v' w', Bs w' n0 v' (l ++ y) → w.grownBy w' v.ownBlock → K (a.put o.dst v') w') : if Region.wanted o (yielded ops a.tmps) = true then Oper.wp Tryd.prog o a w K Q else E := by
  subst hm
  rw [if_pos (by unfold Region.wanted; rw [hgd])]
  obtain ⟨v', w', hrun, h2, h3⟩ := run_append_rd hv S A y c hx hs hn o.type
  unfold Oper.wp execOp
  simp only [ho, resolve, invoke, builtin, Sem.run_bind, Sem.run_pure, Result.andThen_ok, List.map_toArray, List.map_cons, List.map_nil, hsv, hxv, hrun]
  exact h v' w' h2 h3
end
end Go.Proofs.YtabgpnieekcdhaaDoor
