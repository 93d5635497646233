import Derived.Test.YtabgpnieekcdhaaDoorBs
import Derived.Test.YtabgpnieekcdhaaDoorV
import Derived.Lib.FrozenHead
namespace Go.Proofs.YtabgpnieekcdhaaDoor
open Go.RowKit

/-! ## Bytes of the call's own whose row may bear a mark behind its end ('[]byte(text)', then append) -/
theorem run_storeCells_atM (P : Program) (g o : Nat) (t : TypeId) (fz : Nat × Nat) : ∀ (vs : List Value) (i : Nat) (cur : Array Value) (w : World), w.heap[g]? = some (.cells cur t fz) → o + i + vs.length ≤ fz.1 → o + i + vs.length ≤ cur.size → (∀ v ∈ vs, v.oneCell' = true) →
    (storeCells ⟨g, o, none⟩ vs i).run P w = .ok () (w.setRow g (cur.toList.take (o + i) ++ vs ++ cur.toList.drop (o + i + vs.length)).toArray)
  | [], i, cur, w, hg, _, _, _ => by
    simp only [storeCells, List.append_nil, List.length_nil, Nat.add_zero, List.take_append_drop, Array.toArray_toList]
    rw [setRow_self w g cur t fz hg]
    rfl
  | v :: rest, i, cur, w, hg, hfz, hl, h1 => by
    have hi : o + i < cur.size := by simp at hl; omega
    have hadd : (⟨g, o, none⟩ : Addr).add i = ⟨g, o + i, none⟩ := by unfold Addr.add; split <;> simp_all
    have hcell : w.cell? ⟨g, o + i, none⟩ = some cur[o + i] := by simp [World.cell?, hg, hi]
    have hfro : w.frozen? ⟨g, o + i, none⟩ = false := by
      obtain ⟨lo, hi'⟩ := fz
      simp only [World.frozen?, hg, Bool.and_eq_false_iff, decide_eq_false_iff_not]
      left
      simp at hfz
      omega
    have hst : (store ((⟨g, o, none⟩ : Addr).add i) v).run P w = .ok () (w.setRow g (cur.setIfInBounds (o + i) v)) := by
      rw [hadd, run_store P w _ v _ (h1 v (by simp)), hcell]
      simp [hfro, setCell_eq_setRow w g (o + i) cur t fz v hg]
    have ih := run_storeCells_atM P g o t fz rest (i + 1) (cur.setIfInBounds (o + i) v) (w.setRow g (cur.setIfInBounds (o + i) v)) (setRow_heap w g cur _ t _ hg) (by simp at hfz ⊢; omega) (by simp at hl ⊢; omega) (fun x hx => h1 x (by simp [hx]))
    simp only [storeCells, Sem.run_bind, hst, Result.andThen_ok, ih, setRow_setRow]
    congr 3
    have e := list_seg_step cur.toList (o + i) v rest (by simp at hl ⊢; omega)
    simpa [Array.toList_setIfInBounds, Nat.add_assoc] using e
/-- The row bears a mark just behind its end. -/
def Bm (W : World) (n0 : Nat) (v : Value) (l : List UInt8) : Prop := ∃ (g cap : Nat) (cur : Array Value), v = .slice (some ⟨g, 0, none⟩) l.length cap ∧ n0 ≤ g ∧ W.heap[g]? = some (.cells cur 5 (cur.size, cur.size + 1)) ∧ l.length ≤ cap ∧ cap ≤ maxLen ∧ cur.size = cap ∧ cur.toList.take l.length = byts l
def Bz (W : World) (n0 : Nat) (v : Value) (l : List UInt8) : Prop := Bs W n0 v l ∨ Bm W n0 v l
section
variable {W W' : World} {n0 : Nat} {v : Value} {l : List UInt8}
theorem Bm.rd (h : Bm W n0 v l) : ∃ A c, v = .slice A l.length c ∧ Rd W (fun b => n0 ≤ b ∧ b < W.heap.size) A l := by
  obtain ⟨g, cap, cur, rfl, hb, hg, hc, hm, hs, ht⟩ := h
  refine ⟨_, cap, rfl, fun _ => ⟨_, rfl, ⟨hb, (Array.getElem?_eq_some_iff.1 hg).1⟩, fun j u hu => ?_⟩⟩
  rw [add_zero_, Nat.zero_add, cell_of_row W g j cur _ _ hg]
  rw [← ht, List.getElem?_take] at hu
  split at hu
  · simpa using hu
  · cases hu
theorem Bz.shape (h : Bz W n0 v l) : ∃ A c, v = .slice A l.length c ∧ Rd W (fun b => n0 ≤ b ∧ b < W.heap.size) A l := by
  rcases h with h | h
  · exact h.shape
  · exact h.rd
theorem Bz.opened (h : Bz W n0 v l) : ∃ A m c, v = .slice A m c ∧ Bz W n0 (.slice A m c) l := by
  obtain ⟨A, c, e, -⟩ := h.shape
  exact ⟨A, l.length, c, e, e ▸ h⟩
theorem Bz.own (h : Bz W n0 v l) : ∀ g, v.ownBlock = some g → n0 ≤ g ∧ g < W.heap.size ∧ ∃ cs fz, W.heap[g]? = some (.cells cs 5 fz) := by
  intro g hg
  rcases h with h | ⟨g', cap, cur, rfl, hb, hh, _⟩
  · obtain ⟨h1, cs, h2⟩ := h.own g hg
    exact ⟨h1, h2.lt, cs, _, h2⟩
  · obtain rfl : g' = g := by simpa [Value.ownBlock] using hg
    exact ⟨hb, (Array.getElem?_eq_some_iff.1 hh).1, cur, _, hh⟩
theorem Bz.kept (h : Bz W n0 v l) (k : ∀ g, v.ownBlock = some g → W'.heap[g]? = W.heap[g]?) : Bz W' n0 v l := by
  rcases h with h | ⟨g, cap, cur, rfl, hb, hg, r⟩
  · exact .inl (h.kept k)
  · exact .inr ⟨g, cap, cur, rfl, hb, (k g rfl).trans hg, r⟩
theorem Bz.below (h : Bz W n0 v l) (hb : Below W.heap.size W W') : Bz W' n0 v l := h.kept fun g hg => hb.block g (h.own g hg).2.1
theorem Bz.mono (h : Bz W n0 v l) {n1 : Nat} (hn : n1 ≤ n0) : Bz W n1 v l := by
  rcases h with h | ⟨g, cap, cur, rfl, hb, r⟩
  · exact .inl (h.mono hn)
  · exact .inr ⟨g, cap, cur, rfl, Nat.le_trans hn hb, r⟩
end
/-- '[]byte(text)'. -/
theorem bm_of_text (W : World) (n0 : Nat) (s : List UInt8) (hn : n0 ≤ W.heap.size) (hs : s.length ≤ 140737488355328) : ∃ c W', (convert 9 26 (.string ⟨s.toArray⟩)).run Tryd.prog W = .ok (.slice (some ⟨W.heap.size, 0, none⟩) s.length c) W' ∧ Bz W' n0 (.slice (some ⟨W.heap.size, 0, none⟩) s.length c) s ∧ Below W.heap.size W W' := by
  have hz : (⟨s.toArray⟩ : ByteArray).size = s.length := by show s.toArray.size = _; simp
  have := run_bytes_of_string (P := Tryd.prog) W 9 26 5 ⟨s.toArray⟩ Tryd.underlying9 Tryd.underlying26 Tryd.underlying5
  rw [hz] at this
  have hge := grownCap_ge W s.length 0 5
  have hle := grownCap_le_maxLen W s.length 0 5 (by simp only [maxLen]; omega)
  have hsz : (bytesRow ⟨s.toArray⟩ (grownCap W s.length 0 5)).size = grownCap W s.length 0 5 := by
    unfold bytesRow
    rw [hz]
    simp
    omega
  refine ⟨_, _, this, .inr ⟨_, _, _, rfl, hn, World.alloc_heap_new W.drew _, hge, hle, hsz, ?_⟩, (Below.refl W.heap.size W).drew.alloc (Nat.le_refl _) _⟩
  unfold bytesRow byts
  rw [Array.toList_append, List.take_append_of_le_length (by simp), List.take_of_length_le (by simp)]
  simp
  exact fun _ _ => rfl
theorem run_append_textZ {w : World} {n0 : Nat} {v : Value} {l : List UInt8} (hv : Bz w n0 v l) (t : ByteArray) (hs : l.length + t.size ≤ 140737488355328) (hn : n0 ≤ w.heap.size) (ty : TypeId) :
    ∃ v' w', (Builtin.append_ #[26, 9] ty #[v, .string t]).run Tryd.prog w = .ok v' w' ∧ Bz w' n0 v' (l ++ t.data.toList) ∧ w.grownBy w' v.ownBlock := by
  rcases hv with hv | hv
  · obtain ⟨v', w', h1, h2, h3⟩ := run_append_text hv t hs hn ty
    exact ⟨v', w', h1, .inl h2, h3⟩
  · obtain ⟨i, hi, hz, hz1, hz2⟩ := info_parts infoB
    have hcells := hv.rd
    obtain ⟨g, cap, cur, rfl, hb, hg, hc, hm, hcs, ht⟩ := hv
    have e : t.size = t.data.toList.length := by simp only [Array.length_toList]; rfl
    have hst0 : Lib.strCells t = byts t.data.toList := rfl
    by_cases hroom : l.length + t.size ≤ cap
    · have hf := Lib.run_firstCells_string (P := Tryd.prog) w 1 t
      have hst := run_storeCells_atM Tryd.prog g l.length 5 (cur.size, cur.size + 1) (Lib.strCells t) 0 cur w hg (by rw [Lib.strCells_length]; simp only; omega) (by rw [Lib.strCells_length]; omega) (Lib.strCells_oneCell t)
      simp only [Nat.add_zero, Lib.strCells_length] at hst
      have hsz : (cur.toList.take l.length ++ Lib.strCells t ++ cur.toList.drop (l.length + t.size)).toArray.size = cur.size := by
        simp only [List.size_toArray, List.length_append, List.length_take, List.length_drop, Array.length_toList, Lib.strCells_length]
        omega
      refine ⟨.slice (some ⟨g, 0, none⟩) (l.length + t.size) cap, w.setRow g (cur.toList.take l.length ++ Lib.strCells t ++ cur.toList.drop (l.length + t.size)).toArray, ?_, .inr ⟨g, cap, (cur.toList.take l.length ++ Lib.strCells t ++ cur.toList.drop (l.length + t.size)).toArray, by rw [List.length_append, ← e], hb, ?_, by rw [List.length_append, ← e]; exact hroom, hm, ?_, ?_⟩, ⟨rfl, rfl, rfl, by simp, fun k _ hk => setRow_other w g k _ (fun e => hk (by simp [Value.ownBlock, e]))⟩⟩
      · simp [Builtin.append_, run_underlying Tryd.underlying26, run_underlying Tryd.underlying9, sizeOf, typeInfo, hi, hz1, Builtin.lenOf, hroom, hf, Addr.add_lit, hst]
      · rw [hsz]
        exact setRow_heap w g cur _ _ _ hg
      · rw [hsz]; exact hcs
      · rw [ht, List.length_append, ← e, byts_append, hst0]
        have hl2 : (byts l ++ byts t.data.toList).length = l.length + t.size := by rw [List.length_append, byts_length, byts_length, e]
        rw [← hl2]
        exact List.take_left
    · have holds : ∀ j u, (byts l)[j]? = some u → w.cell? ((⟨g, 0, none⟩ : Addr).add j) = some u := fun j u hu => by
        rw [add_zero_, Nat.zero_add, cell_of_row w g j cur _ _ hg]
        rw [← ht, List.getElem?_take] at hu
        split at hu
        · simpa using hu
        · cases hu
      have hr := Lib.run_append_grow_string (P := Tryd.prog) w 26 9 ty 5 i (.int .u8 0) Tryd.underlying26 Tryd.underlying9 hi hz ⟨g, 0, none⟩ l.length cap (byts l) (by rw [hz1, byts_length]; omega) holds t (by omega) (by omega) (by rw [hz2]; exact growslice_fits (by omega) (by omega))
      have hge := grownCap_ge w (l.length + t.size) cap 5
      have hcm2 : grownCap w (l.length + t.size) cap 5 ≤ maxLen := grownCap_le_maxLen w (l.length + t.size) cap 5 (by simp only [maxLen]; omega)
      have hlen : (byts (l ++ t.data.toList)).length = (l.length + t.size) * 1 := by rw [byts_length, List.length_append, ← e, Nat.mul_one]
      refine ⟨_, _, hr, .inl ?_, ⟨rfl, rfl, rfl, by simp, fun k hk _ => Below.heap_alloc w.drew _ k hk⟩⟩
      unfold Bs
      rw [List.length_append, ← e]
      refine ⟨hlen, .inr ⟨w.heap.size, _, _, rfl, hn, World.alloc_heap_new w.drew _, hge, hcm2, ?_, ?_⟩⟩
      · have hz1 : (Value.int IntKind.u8 0).cells.size = 1 := rfl
        simp only [Array.size_append, List.size_toArray, size_zeroCells, hz1, byts_length, Lib.strCells_length]
        omega
      · simp only [Array.toList_append, List.append_assoc]
        rw [← List.append_assoc, hst0, ← byts_append, ← hlen]
        exact List.take_left
section
variable {w : World} {ops : Array Oper} {rest : List Oper} {o : Oper} {a : Act} {Q : Exit → Act → World → Prop} {n0 : Nat} {v : Value} {l : List UInt8}
theorem wpList_append_textZ (hgd : o.guard = none) (s x : Operand) (ho : o.op = .call { callee := .builtin .append, args := #[s, x], argTypes := #[26, 9] }) (hsv : a.eval s = v) (hv : Bz w n0 v l)
    (t : ByteArray) (hxv : a.eval x = .string t) (hs : l.length + t.size ≤ 140737488355328) (hn : n0 ≤ w.heap.size)
    (h : ∀ v' w', Bz w' n0 v' (l ++ t.data.toList) → w.grownBy w' v.ownBlock → wpList Tryd.prog ops Q rest (a.put o.dst v') w') : wpList Tryd.prog ops Q (o :: rest) a w := by
  refine wpList_plain hgd fun K hK => ?_
  obtain ⟨v', w', hrun, h2, h3⟩ := run_append_textZ hv t hs hn o.type
  unfold Oper.wp execOp
  simp only [ho, resolve, invoke, builtin, Sem.run_bind, Sem.run_pure, Result.andThen_ok, List.map_toArray, List.map_cons, List.map_nil, hsv, hxv, hrun]
  exact hK _ _ (h v' w' h2 h3)
theorem step_append_textZ {K : Act → World → Prop} {E : Prop} (hgd : o.guard = none) (s x : Operand) (ho : o.op = .call { callee := .builtin .append, args := #[s, x], argTypes := #[26, 9] }) (hsv : a.eval s = v) (hv : Bz w n0 v l)
    (t : ByteArray) (hxv : a.eval x = .string t) (hs : l.length + t.size ≤ 140737488355328) (hn : n0 ≤ w.heap.size)
    (h : ∀ v' w', Bz w' n0 v' (l ++ t.data.toList) → w.grownBy w' v.ownBlock → K (a.put o.dst v') w') : if Region.wanted o (yielded ops a.tmps) = true then Oper.wp Tryd.prog o a w K Q else E := by
  rw [if_pos (by unfold Region.wanted; rw [hgd])]
  obtain ⟨v', w', hrun, h2, h3⟩ := run_append_textZ hv t hs hn o.type
  unfold Oper.wp execOp
  simp only [ho, resolve, invoke, builtin, Sem.run_bind, Sem.run_pure, Result.andThen_ok, List.map_toArray, List.map_cons, List.map_nil, hsv, hxv, hrun]
  exact h v' w' h2 h3
end
end Go.Proofs.YtabgpnieekcdhaaDoor
